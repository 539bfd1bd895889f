import Derived.Test.YtechceagghcipaaGreatDoorRA45
import Derived.Test.YtechceagghcipaaGreatDoorRA31
namespace Go.Proofs.YtechceagghcipaaGreatDoor
open Go.RowKit

def KR (w : World) (X : Nat -> Prop) (g m : Nat) (s : St7) (wr : World) : Prop :=
 ∃ F S : Nat -> Prop, RM wr g F S m s /\ (∀ b, F b ∨ S b -> w.heap.size <= b /\ ¬ X b) /\ Below w.heap.size w wr
def Fx (w : World) (X : Nat -> Prop) (wr w' : World) : Prop := Fr (fun b => w.heap.size <= b /\ ¬ X b) wr w'
theorem KR.add {w wr : World} {X : Nat -> Prop} {g m : Nat} {s : St7} {G : Nat -> Prop} {v : Value} {r : List Int} (h : KR w X g m s wr) (hX : ∀ b, X b -> b < wr.heap.size) (hv : Li G wr v r) (he : r.length = s.wd) (hl : r.length <= 10000000000) (hc : s.rows.length < 10000000000) :
  Calls Tryz.prog 34 #[.pointer (some ⟨g, 0, none⟩), v] wr fun e w' => e = .returned (.tuple #[.bool (decide (r ∉ s.rows)), .int .i64 0]) /\ KR w X g m (ad7 s r) w' /\ Fx w X wr w' := by
 obtain ⟨F, S, h1, h2, h3⟩ := h
 refine (add8_any g F S G m s v r wr h1 hv he hl hc).mono ?_
 rintro e w' ⟨rfl, ⟨F', S', k1, k2, k3⟩, k4⟩
 have := h3.size
 refine ⟨rfl, ⟨F', S', k1, fun b hb => ?_, low7 h3 k4 fun b hF => (h2 b (Or.inl hF)).1⟩, Fr.mono k4 fun b _ hF => h2 b (Or.inl hF)⟩
 have hn : wr.heap.size <= b -> w.heap.size <= b /\ ¬ X b := fun hb => ⟨by omega, fun hc => by have := hX b hc; omega⟩
 exact hb.elim (fun h => (k2 b h).elim (fun h => h2 b (Or.inl h)) hn) fun h => (k3 b h).elim (fun h => h2 b (Or.inr h)) hn
theorem KR.turn {w wr : World} {X : Nat -> Prop} {g m : Nat} {s : St7} (h : KR w X g m s wr) :
  Calls Tryz.prog 35 #[.pointer (some ⟨g, 0, none⟩)] wr fun e w' => e = .returned (.int .i64 ((s.rows.length : Int) - (s.xf : Int))) /\ KR w X g m (Turn7 s) w' /\ Fx w X wr w' := by
 obtain ⟨F, S, h1, h2, h3⟩ := h
 refine (turn7_any g F S m s wr h1).mono ?_
 rintro e w' ⟨rfl, k1, k4⟩
 exact ⟨rfl, ⟨F, S, k1, h2, low7 h3 k4 fun b hF => (h2 b (Or.inl hF)).1⟩, Fr.mono k4 fun b _ hF => h2 b (Or.inl hF)⟩
theorem KR.len {w wr : World} {X : Nat -> Prop} {g m : Nat} {s : St7} (h : KR w X g m s wr) (parts : Int) :
  Calls Tryz.prog 112 #[.pointer (some ⟨g, 0, none⟩), .int .i64 parts] wr fun e w' => e = .returned (.int .i64 (len7 s parts)) /\ Below wr.heap.size wr w' := by
 obtain ⟨F, S, h1, h2, h3⟩ := h
 exact len7_any g F S m s parts wr h1
end Go.Proofs.YtechceagghcipaaGreatDoor
