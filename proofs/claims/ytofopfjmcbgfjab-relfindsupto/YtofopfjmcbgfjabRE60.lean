import Derived.Test.YtofopfjmcbgfjabRE4
import Derived.Deep.CutBlock
/-
  law 7: a step of the one relation, then of the other.
-/
namespace Go.Proofs.Ytofopfjmcbgfjab
open Go.RowKit

variable {w Y W W' : World} {T R : Nat → Prop} {g h m : Nat} {s s1 s2 : St7}
/-- The two, which need not be alike yet. -/
def MD (w : World) (T R : Nat → Prop) (g h m : Nat) (s1 s2 : St7) (Y W : World) : Prop := Fr (fun b => T b ∨ R b) Y W ∧ ∃ T' R' : Nat → Prop, PT w T' g m s1 W ∧ RR w R' h s2 W ∧ (∀ b, T' b → ¬ R' b) ∧ ∀ b, T' b ∨ R' b → (T b ∨ R b) ∨ Y.heap.size ≤ b
theorem BX.md (H : BX w T R g h m s Y W) : MD w T R g h m s s Y W := by obtain ⟨h1, T', R', h2, h3⟩ := H; exact ⟨h1, T', R', h2.p, h2.r, h2.d, h3⟩
theorem MD.bx (H : MD w T R g h m s s Y W) : BX w T R g h m s Y W := by obtain ⟨h1, T', R', h2, h4, h5, h3⟩ := H; exact ⟨h1, T', R', ⟨h2, h4, h5⟩, h3⟩
theorem MD.below (H : MD w T R g h m s1 s2 Y W) (hb : Below W.heap.size W W') : MD w T R g h m s1 s2 Y W' := by
  obtain ⟨h1, T', R', h2, h4, h5, h3⟩ := H
  exact ⟨h1.then hb, T', R', h2.below hb, h4.below hb, h5, h3⟩
theorem MD.drew (H : MD w T R g h m s1 s2 Y W) : MD w T R g h m s1 s2 Y W.drew := H.below (by exact ⟨rfl, rfl, rfl, Nat.le_refl _, fun _ _ => rfl⟩)
theorem MD.kin (H : MD w T R g h m s1 s2 Y W) {b : Nat} {c : Array Value} {t : TypeId} (hb : Bk Y b c t) (hn : ¬ T b ∧ ¬ R b) : Bk W b c t := hb.fr H.1 fun h => h.elim hn.1 hn.2
theorem MD.li (H : MD w T R g h m s1 s2 Y W) {G : Nat → Prop} {v : Value} {l : List Int} (hv : Li G Y v l) (hn : ∀ b, b < Y.heap.size → G b → ¬ T b ∧ ¬ R b) : Li G W v l := hv.fr H.1 fun b hl hb hc => hc.elim (hn b hl hb).1 (hn b hl hb).2
theorem MD.one {m' : Nat} {s1' : St7} (hs : ∀ T', PT w T' g m s1 W → PX w T' g m' s1' W W') (H : MD w T R g h m s1 s2 Y W) : MD w T R g h m' s1' s2 Y W' := by
  obtain ⟨h1, T', R', h2, h4, h5, h3⟩ := H
  obtain ⟨k1, T2, k2, k3⟩ := hs T' h2
  have hz := h1.size
  refine ⟨h1.trans k1 fun b hb hc => (h3 b (Or.inl hc)).elim id fun h => by omega, T2, R', k2, h4.fr k1 fun b hb _ => ⟨(h2.t b hb).1, h5 b hb⟩, fun b hb hc => ?_, fun b hb => ?_⟩
  · rcases k3 b hb with h6 | h6
    · exact h5 b h6 hc
    · have := (h4.t b hc).2; omega
  · rcases hb with hb | hb
    · rcases k3 b hb with h6 | h6
      · exact h3 b (Or.inl h6)
      · exact Or.inr (by omega)
    · exact h3 b (Or.inr hb)
theorem md_add {G : Nat → Prop} {v : Value} {r : List Int} (H : MD w T R g h m s1 s2 Y W) (hv : Li G W v r) (he : r.length = s1.wd) (hl : r.length ≤ 10000000000) (hc : s1.rows.length < 10000000000) :
    Calls Try.prog 13 #[.pointer (some ⟨g, 0, none⟩), v] W fun e W' => e = .returned (.tuple #[.bool (decide (r ∉ s1.rows)), .int .i64 0]) ∧ MD w T R g h m (ad7 s1 r) s2 Y W' := by
  obtain ⟨h1, T', R', h2, h4, h5, h3⟩ := H
  refine (h2.add hv he hl hc).mono ?_
  rintro e W' ⟨rfl, k1, T2, k2, k3⟩
  have hz := h1.size
  refine ⟨rfl, h1.trans k1 fun b hb hc => (h3 b (Or.inl hc)).elim id fun h => by omega, T2, R', k2, h4.fr k1 fun b hb _ => ⟨(h2.t b hb).1, h5 b hb⟩, fun b hb hc => ?_, fun b hb => ?_⟩
  · rcases k3 b hb with h6 | h6
    · exact h5 b h6 hc
    · have := (h4.t b hc).2; omega
  · rcases hb with hb | hb
    · rcases k3 b hb with h6 | h6
      · exact h3 b (Or.inl h6)
      · exact Or.inr (by omega)
    · exact h3 b (Or.inr hb)
theorem md_no {G : Nat → Prop} {v : Value} {r : List Int} (H : MD w T R g h m s1 s2 Y W) (hv : Li G W v r) (he : r.length ≠ s1.wd) :
    Calls Try.prog 13 #[.pointer (some ⟨g, 0, none⟩), v] W fun e W' => e = .returned (.tuple #[.bool false, .int .i64 71]) ∧ MD w T R g h m s1 s2 Y W' := by
  have H' := H
  obtain ⟨h1, T', R', h2, h4, h5, h3⟩ := H
  refine (h2.kr.no hv he).mono ?_
  rintro e W' ⟨rfl, hb⟩
  exact ⟨rfl, H'.below hb⟩
theorem md_turn (H : MD w T R g h m s1 s2 Y W) : Calls Try.prog 14 #[.pointer (some ⟨g, 0, none⟩)] W fun e W' => e = .returned (.int .i64 ((s1.rows.length : Int) - (s1.xf : Int))) ∧ MD w T R g h m (Turn7 s1) s2 Y W' := by
  obtain ⟨h1, T', R', h2, h4, h5, h3⟩ := H
  refine h2.turn.mono ?_
  rintro e W' ⟨rfl, k1, T2, k2, k3⟩
  have hz := h1.size
  refine ⟨rfl, h1.trans k1 fun b hb hc => (h3 b (Or.inl hc)).elim id fun h => by omega, T2, R', k2, h4.fr k1 fun b hb _ => ⟨(h2.t b hb).1, h5 b hb⟩, fun b hb hc => ?_, fun b hb => ?_⟩
  · rcases k3 b hb with h6 | h6
    · exact h5 b h6 hc
    · have := (h4.t b hc).2; omega
  · rcases hb with hb | hb
    · rcases k3 b hb with h6 | h6
      · exact h3 b (Or.inl h6)
      · exact Or.inr (by omega)
    · exact h3 b (Or.inr hb)
/-- The same of the document's. -/
theorem MD.two {s2' : St7} {T' R' : Nat → Prop} (h1 : Fr (fun b => T b ∨ R b) Y W) (h2 : PT w T' g m s1 W) (h4 : RR w R' h s2 W) (h5 : ∀ b, T' b → ¬ R' b) (h3 : ∀ b, T' b ∨ R' b → (T b ∨ R b) ∨ Y.heap.size ≤ b) (k : RPX w R' h s2' W W') : MD w T R g h m s1 s2' Y W' := by
  obtain ⟨k1, R2, k2, k3⟩ := k
  have hz := h1.size
  refine ⟨h1.trans k1 fun b hb hc => (h3 b (Or.inr hc)).elim id fun h => by omega, T', R2, h2.fr k1 fun b hb _ => ⟨(h4.t b hb).1, fun hc => h5 b hc hb⟩, k2, fun b hb hc => ?_, fun b hb => ?_⟩
  · rcases k3 b hc with h6 | h6
    · exact h5 b hb h6
    · have := (h2.t b hb).2; omega
  · rcases hb with hb | hb
    · exact h3 b (Or.inl hb)
    · rcases k3 b hb with h6 | h6
      · exact h3 b (Or.inr h6)
      · exact Or.inr (by omega)
theorem md_radd {G : Nat → Prop} {v : Value} {r : List Int} (H : MD w T R g h m s1 s2 Y W) (hv : Li G W v r) (he : r.length = s2.wd) (hl : r.length ≤ 10000000000) (hc : s2.rows.length < 10000000000) :
    Calls Try.prog 18 #[.pointer (some ⟨h, 0, none⟩), v] W fun e W' => e = .returned (.tuple #[.bool (decide (r ∉ s2.rows)), .int .i64 0]) ∧ MD w T R g h m s1 (ad7 s2 r) Y W' := by
  obtain ⟨h1, T', R', h2, h4, h5, h3⟩ := H
  refine (radd7_any w R' G h s2 v r W h4 hv he hl hc).mono ?_
  rintro e W' ⟨rfl, k⟩
  exact ⟨rfl, MD.two h1 h2 h4 h5 h3 k⟩
theorem md_rno {G : Nat → Prop} {v : Value} {r : List Int} (H : MD w T R g h m s1 s2 Y W) (hv : Li G W v r) (he : r.length ≠ s2.wd) :
    Calls Try.prog 18 #[.pointer (some ⟨h, 0, none⟩), v] W fun e W' => e = .returned (.tuple #[.bool false, .int .i64 71]) ∧ MD w T R g h m s1 s2 Y W' := by
  have H' := H
  obtain ⟨h1, T', R', h2, h4, h5, h3⟩ := H
  refine (radd7_wid w R' G h s2 v r W h4 hv he).mono ?_
  rintro e W' ⟨rfl, rfl⟩
  exact ⟨rfl, H'⟩
theorem md_rturn (H : MD w T R g h m s1 s2 Y W) : Calls Try.prog 19 #[.pointer (some ⟨h, 0, none⟩)] W fun e W' => e = .returned (.int .i64 ((s2.rows.length : Int) - (s2.xf : Int))) ∧ MD w T R g h m s1 (Turn7 s2) Y W' := by
  obtain ⟨h1, T', R', h2, h4, h5, h3⟩ := H
  refine (rturn7_any w R' h s2 W h4).mono ?_
  rintro e W' ⟨rfl, k⟩
  exact ⟨rfl, MD.two h1 h2 h4 h5 h3 k⟩
/-- The first numbers of a list that has marks behind it. -/
theorem OwI.front {B n c : Nat} {a : Option Addr} {l k : List Int} (H : OwI W B (.slice a n c) (l ++ k)) (hw : w64 (l ++ k)) : Li (fun b => B ≤ b) W (.slice a l.length c) l := by
  obtain ⟨a', cap, e, h1, h2, h3, h4⟩ := H.li hw
  simp only [Value.slice.injEq] at e
  obtain ⟨rfl, -, rfl⟩ := e
  rw [List.length_append] at h1
  refine ⟨a, c, rfl, by omega, h2, fun x hx => h3 x (List.mem_append_left _ hx), ?_⟩
  rcases h4 with ⟨h4, h5⟩ | ⟨b, o, rfl, h5, h6, h7⟩
  · exact Or.inl ⟨(List.append_eq_nil_iff.1 h4).1, h5⟩
  · exact Or.inr ⟨b, o, rfl, h5, h6.1, fun i x hx => h7 i x (by rw [List.getElem?_append_left (List.getElem?_eq_some_iff.1 hx).1]; exact hx)⟩
end Go.Proofs.Ytofopfjmcbgfjab
/-
  law 7: plays (written by RE6.py).
-/
namespace Go.Proofs.Ytofopfjmcbgfjab
open Go.RowKit
attribute [local go_sem ↓] Go.wp_at_zero Go.wp_at_succ

/-- One step of a script: the relation behind it. -/
def step7 (s : St7) (k : Int) (row : List Int) : St7 := if k = 1 ∧ row.length = s.wd then ad7 s row else if k = 2 then Turn7 s else s
structure OpD where
  k : Int
  parts : Int
  stop : Int
  two : Bool
  row : List Int
  cols : List Int
  key : List Int
/-- A step's lists, where they lie: under the call's own blocks. -/
structure OpM (w Y : World) (o : OpD) (rv cv kv : Value) : Prop where
  r : Li (fun b => b < w.heap.size) Y rv o.row
  c : Li (fun b => b < w.heap.size) Y cv o.cols
  k : Li (fun b => b < w.heap.size) Y kv o.key
  rl : o.row.length ≤ 1000000000
  cl : o.cols.length ≤ 1000000000
  kl : o.key.length ≤ 1000000000
def opv (o : OpD) (rv cv kv : Value) : Value := .agg #[.int .i64 o.k, .int .i64 o.parts, .int .i64 o.stop, .bool o.two, rv, cv, kv]
def PyQ (w : World) (T R : Nat → Prop) (g h m : Nat) (s : St7) (Y : World) (e : Ending) (Y' : World) : Prop := e = .returned (.bool true) ∧ ∃ m', m' ≤ m + 3 ∧ BX w T R g h m' s Y Y'
/-- What finds is asked for. -/
def FindsOk : Prop := ∀ (w : World) (T R : Nat → Prop) (g h m : Nat) (s : St7) (Y : World) (o : OpD) (rv cv kv : Value), BO w T R g h m s Y → OpM w Y o rv cv kv → m ≤ 10000000000000 →
  Calls Try.prog 25 #[.agg #[.pointer (some ⟨g, 0, none⟩), .pointer (some ⟨h, 0, none⟩)], opv o rv cv kv] Y (PyQ w T R g h m s Y)
theorem w64_marks {l : List Int} (h : w64 l) : w64 (l ++ [71, 72, 73]) := fun x hx => by
  rcases List.mem_append.1 hx with hx | hx
  · exact h x hx
  · simp at hx; rcases hx with rfl | rfl | rfl <;> rfl
/-- Blocks that are neither's were written. -/
theorem BX.off {w Y W W' : World} {T R P : Nat → Prop} {g h m : Nat} {s : St7} {Y0 : World} (H : BX w T R g h m s Y W) (hf : Fr P W W') (h0 : Below Y0.heap.size Y0 Y) (hT : ∀ b, T b ∨ R b → b < Y0.heap.size) (hw : w.heap.size ≤ Y0.heap.size) (hP : ∀ b, P b → Y0.heap.size ≤ b ∧ b < Y.heap.size) : BX w T R g h m s Y0 W' := by
  obtain ⟨h1, T', R', h2, h3⟩ := H
  have hz := h0.size
  have hq : ∀ b, P b → ¬ (T' b ∨ R' b) := fun b hb hc => by
    have h5 := hP b hb
    rcases h3 b hc with h | h
    · have := hT b h; omega
    · omega
  have hn : ∀ b, P b → ¬ T' b ∧ ¬ R' b := fun b hb => ⟨fun hc => hq b hb (Or.inl hc), fun hc => hq b hb (Or.inr hc)⟩
  refine ⟨((Fr.of h0).trans h1 fun _ _ h => h).trans hf fun b hb hc => by have := hP b hc; omega, T', R', h2.fr hf fun b hb _ => ⟨by have := hP b hb; omega, hn b hb⟩, fun b hb => (h3 b hb).imp id fun h => by omega⟩
end Go.Proofs.Ytofopfjmcbgfjab
