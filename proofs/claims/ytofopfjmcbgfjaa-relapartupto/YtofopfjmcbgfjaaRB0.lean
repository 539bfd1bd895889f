/-
  law 7: a relation of the call's own, beside blocks that it leaves alone.
-/
import Derived.Test.YtofopfjmcbgfjaaRA27
import Derived.Test.YtofopfjmcbgfjaaRA31
namespace Go.Proofs.Ytofopfjmcbgfjaa
open Go.RowKit

/-- A relation of the call's own, that touches no block of X. -/
def KR (w : World) (X : Nat → Prop) (g m : Nat) (s : St7) (wr : World) : Prop :=
  ∃ F S : Nat → Prop, RM wr g F S m s ∧ (∀ b, F b ∨ S b → w.heap.size ≤ b ∧ ¬ X b) ∧ Below w.heap.size w wr
/-- All that isn't new to the call, and X, stay. -/
def Fx (w : World) (X : Nat → Prop) (wr w' : World) : Prop := Fr (fun b => w.heap.size ≤ b ∧ ¬ X b) wr w'
theorem Fx.x {w : World} {X : Nat → Prop} {wr w' : World} (h : Fx w X wr w') {b : Nat} (hb : X b) (hl : b < wr.heap.size) : w'.heap[b]? = wr.heap[b]? := h.block b hl fun hc => hc.2 hb
theorem Fx.low {w : World} {X : Nat → Prop} {wr w' : World} (h : Fx w X wr w') (hs : w.heap.size ≤ wr.heap.size) : Below w.heap.size wr w' := (Fr.mono h (Q := fun b => w.heap.size ≤ b) fun _ _ hb => hb.1).low hs
theorem Fx.of {w : World} {X : Nat → Prop} {wr w' : World} (h : Below wr.heap.size wr w') : Fx w X wr w' := Fr.of h
theorem Fx.tr {w : World} {X : Nat → Prop} {a b c : World} (h : Fx w X a b) (k : Fx w X b c) : Fx w X a c := Fr.tr h k
theorem Fx.mono {w : World} {X Y : Nat → Prop} {a b : World} (h : Fx w X a b) (hy : ∀ k, k < a.heap.size → Y k → X k) : Fx w Y a b := Fr.mono h fun k hk hb => ⟨hb.1, fun hc => hb.2 (hy k hk hc)⟩
theorem KR.b {w : World} {X : Nat → Prop} {g m : Nat} {s : St7} {wr : World} (h : KR w X g m s wr) : Below w.heap.size w wr := by obtain ⟨F, S, h1, h2, h3⟩ := h; exact h3
theorem KR.ok {w : World} {X : Nat → Prop} {g m : Nat} {s : St7} {wr : World} (h : KR w X g m s wr) : s.Ok := by obtain ⟨F, S, h1, h2, h3⟩ := h; exact h1.ok
theorem KR.below {w : World} {X : Nat → Prop} {g m : Nat} {s : St7} {wr w' : World} (h : KR w X g m s wr) (hb : Below wr.heap.size wr w') : KR w X g m s w' := by
  obtain ⟨F, S, h1, h2, h3⟩ := h
  exact ⟨F, S, h1.below hb, h2, h3.trans (hb.mono h3.size)⟩
/-- Where only blocks of X are written. -/
theorem KR.fr {w : World} {X : Nat → Prop} {g m : Nat} {s : St7} {wr w' : World} (h : KR w X g m s wr) (hf : Fr X wr w') (hX : ∀ b, X b → w.heap.size ≤ b) : KR w X g m s w' := by
  obtain ⟨F, S, h1, h2, h3⟩ := h
  exact ⟨F, S, h1.fr hf fun b hb hc => (h2 b hb).2 hc, h2, low7 h3 hf hX⟩
theorem KR.mono {w : World} {X Y : Nat → Prop} {g m : Nat} {s : St7} {wr : World} (h : KR w X g m s wr) (hy : ∀ b, Y b → b < wr.heap.size → X b) : KR w Y g m s wr := by
  obtain ⟨F, S, h1, h2, h3⟩ := h
  exact ⟨F, S, h1, fun b hb => ⟨(h2 b hb).1, fun hc => (h2 b hb).2 (hy b hc (hb.elim (fun h => (h1.q b h).2) (h1.q2 b)))⟩, h3⟩
/-- What is laid behind it may be left alone too. -/
theorem KR.more {w : World} {X Y : Nat → Prop} {g m : Nat} {s : St7} {wr w' : World} (h : KR w X g m s wr) (hb : Below wr.heap.size wr w') (hy : ∀ b, Y b → X b ∨ wr.heap.size ≤ b) : KR w Y g m s w' := by
  obtain ⟨F, S, h1, h2, h3⟩ := h
  refine ⟨F, S, h1.below hb, fun b hb' => ⟨(h2 b hb').1, fun hc => ?_⟩, h3.trans (hb.mono h3.size)⟩
  have hl := hb'.elim (fun h => (h1.q b h).2) (h1.q2 b)
  rcases hy b hc with hx | hx
  · exact (h2 b hb').2 hx
  · omega
theorem KR.of {w : World} {g m : Nat} {s : St7} {wr : World} (h : HD7 w g m s wr) : KR w (fun _ => False) g m s wr := by
  obtain ⟨F, S, h1, h2, h3⟩ := h
  exact ⟨F, S, h1, fun b hb => ⟨h2 b hb, fun h => h⟩, h3⟩
theorem KR.add {w wr : World} {X : Nat → Prop} {g m : Nat} {s : St7} {G : Nat → Prop} {v : Value} {r : List Int} (h : KR w X g m s wr) (hX : ∀ b, X b → b < wr.heap.size) (hv : Li G wr v r) (he : r.length = s.wd) (hl : r.length ≤ 10000000000) (hc : s.rows.length < 10000000000) :
    Calls Try.prog 16 #[.pointer (some ⟨g, 0, none⟩), v] wr fun e w' => e = .returned (.tuple #[.bool (decide (r ∉ s.rows)), .int .i64 0]) ∧ KR w X g m (ad7 s r) w' ∧ Fx w X wr w' := by
  obtain ⟨F, S, h1, h2, h3⟩ := h
  refine (add8_any g F S G m s v r wr h1 hv he hl hc).mono ?_
  rintro e w' ⟨rfl, ⟨F', S', k1, k2, k3⟩, k4⟩
  have := h3.size
  refine ⟨rfl, ⟨F', S', k1, fun b hb => ?_, low7 h3 k4 fun b hF => (h2 b (Or.inl hF)).1⟩, Fr.mono k4 fun b _ hF => h2 b (Or.inl hF)⟩
  have hn : wr.heap.size ≤ b → w.heap.size ≤ b ∧ ¬ X b := fun hb => ⟨by omega, fun hc => by have := hX b hc; omega⟩
  exact hb.elim (fun h => (k2 b h).elim (fun h => h2 b (Or.inl h)) hn) fun h => (k3 b h).elim (fun h => h2 b (Or.inr h)) hn
theorem KR.no {w wr : World} {X : Nat → Prop} {g m : Nat} {s : St7} {G : Nat → Prop} {v : Value} {r : List Int} (h : KR w X g m s wr) (hv : Li G wr v r) (he : r.length ≠ s.wd) :
    Calls Try.prog 16 #[.pointer (some ⟨g, 0, none⟩), v] wr fun e w' => e = .returned (.tuple #[.bool false, .int .i64 71]) ∧ Below wr.heap.size wr w' := by
  obtain ⟨F, S, h1, h2, h3⟩ := h
  exact add7_wid g F S G m s v r wr h1 hv he
theorem KR.turn {w wr : World} {X : Nat → Prop} {g m : Nat} {s : St7} (h : KR w X g m s wr) :
    Calls Try.prog 18 #[.pointer (some ⟨g, 0, none⟩)] wr fun e w' => e = .returned (.int .i64 ((s.rows.length : Int) - (s.xf : Int))) ∧ KR w X g m (Turn7 s) w' ∧ Fx w X wr w' := by
  obtain ⟨F, S, h1, h2, h3⟩ := h
  refine (turn7_any g F S m s wr h1).mono ?_
  rintro e w' ⟨rfl, k1, k4⟩
  exact ⟨rfl, ⟨F, S, k1, h2, low7 h3 k4 fun b hF => (h2 b (Or.inl hF)).1⟩, Fr.mono k4 fun b _ hF => h2 b (Or.inl hF)⟩
theorem KR.part {w wr : World} {X : Nat → Prop} {g m : Nat} {s : St7} {G : Nat → Prop} {v : Value} {r : List Int} (h : KR w X g m s wr) (hv : Li G wr v r) (hl : r.length ≤ 10000000000) :
    Calls Try.prog 28 #[.pointer (some ⟨g, 0, none⟩), v] wr fun e w' => e = .returned (.int .i64 (part7 s r)) ∧ Below wr.heap.size wr w' := by
  obtain ⟨F, S, h1, h2, h3⟩ := h
  exact part7_any g F S G m s v r wr h1 hv hl
theorem KR.len {w wr : World} {X : Nat → Prop} {g m : Nat} {s : St7} (h : KR w X g m s wr) (parts : Int) :
    Calls Try.prog 20 #[.pointer (some ⟨g, 0, none⟩), .int .i64 parts] wr fun e w' => e = .returned (.int .i64 (len7 s parts)) ∧ Below wr.heap.size wr w' := by
  obtain ⟨F, S, h1, h2, h3⟩ := h
  exact len7_any g F S m s parts wr h1
theorem KR.rows {w wr : World} {X : Nat → Prop} {g m : Nat} {s : St7} (h : KR w X g m s wr) (hX : ∀ b, X b → b < wr.heap.size) (parts : Int) (hm : m ≤ 100000000000000) :
    Calls Try.prog 12 #[.pointer (some ⟨g, 0, none⟩), .int .i64 parts] wr fun e w' => ∃ u, e = .returned u ∧ ∃ Q B, OL w' B u Q ∧ wr.heap.size ≤ B ∧ Q.map Prod.fst = srt7 (sel7 s parts [] []) ∧ KR w (fun b => X b ∨ (B ≤ b ∧ b < w'.heap.size)) g (m + 1) s w' ∧ Fx w X wr w' := by
  obtain ⟨F, S, h1, h2, h3⟩ := h
  refine (rows8_any g F S m s parts wr h1 hm).mono ?_
  rintro e w' ⟨u, F', P, B, rfl, k1, k2, k3, k4, k5, k6, k7, k8⟩
  have := h3.size
  refine ⟨u, rfl, P, B, ⟨k6, k8⟩, k5, k7, ⟨F', S, k1, fun b hb => ?_, low7 h3 k2 fun b hF => (h2 b (Or.inl hF)).1⟩, Fr.mono k2 fun b _ hF => h2 b (Or.inl hF)⟩
  rcases hb with hb | hb
  · obtain ⟨q1, q2⟩ := k4 b hb
    rcases q1 with q1 | q1
    · exact ⟨(h2 b (Or.inl q1)).1, fun hc => hc.elim (h2 b (Or.inl q1)).2 fun hc => by omega⟩
    · exact ⟨by omega, fun hc => hc.elim (fun hc => by have := hX b hc; omega) fun hc => by omega⟩
  · have := h1.q2 b hb
    exact ⟨(h2 b (Or.inr hb)).1, fun hc => hc.elim (h2 b (Or.inr hb)).2 fun hc => by omega⟩
theorem KR.find {w wr : World} {X : Nat → Prop} {g m : Nat} {s : St7} {G N : Nat → Prop} {cols keys : List Int} {cv kv : Value} (h : KR w X g m s wr) (parts : Int) (hc : Li G wr cv cols) (hk : Li N wr kv keys) (hl : cols.length ≤ 1000000000) :
    Calls Try.prog 13 #[.pointer (some ⟨g, 0, none⟩), .int .i64 parts, cv, kv] wr (FI wr g parts s.wd cols keys) := by
  obtain ⟨F, S, h1, h2, h3⟩ := h
  exact find8_any g F S G N m s parts cols keys cv kv wr h1 hc hk hl
/-- A list of rows that a call made stays where its blocks are left alone. -/
theorem OL.fx {w : World} {X : Nat → Prop} {wr w' : World} {B : Nat} {v : Value} {P : List (List Int × Value)} (h : OL wr B v P) (hf : Fx w X wr w') (hx : ∀ b, B ≤ b → b < wr.heap.size → X b) : OL w' B v P := h.fr hf fun b h1 h2 h3 => h3.2 (hx b h1 h2)
theorem OL.rn {w : World} {B : Nat} {v : Value} {P : List (List Int × Value)} (h : OL w B v P) : Rn7 w v P := by
  obtain ⟨a, cap, rfl, hc⟩ := row7_form h.o
  refine ⟨a, cap, rfl, ?_, fun p hp => (h.l p hp).any⟩
  cases hP : P with
  | nil => exact Or.inl rfl
  | cons p P' =>
    obtain ⟨b, rfl, -, hl, -, -⟩ := row7_at h.o (i := 0) (u := p.2) (by rw [hP]; rfl)
    refine Or.inr ⟨b, 0, rfl, hl, fun i q hq => ?_⟩
    rw [← hP] at hq
    obtain ⟨b', e, -, -, h4, -⟩ := row7_at h.o (i := i) (u := q.2) (by rw [List.getElem?_map, hq]; rfl)
    cases e
    rw [Nat.zero_add]
    exact h4
end Go.Proofs.Ytofopfjmcbgfjaa
