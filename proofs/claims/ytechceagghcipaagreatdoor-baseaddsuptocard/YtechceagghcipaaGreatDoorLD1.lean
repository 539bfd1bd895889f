import Derived.Test.YtechceagghcipaaGreatDoorMD8
import Derived.Test.YtechceagghcipaaGreatDoorCL20
import Derived.Deep.RegionHeld3
import Derived.BigQuiet
namespace Go.Proofs.YtechceagghcipaaGreatDoor
open Go.RowKit
attribute [local go_sem ↓] Go.wp_at_zero Go.wp_at_succ

def bN : ByteArray := ⟨#[98, 101, 104, 105, 110, 100]⟩
def bT : Tm := ⟨901, 902, bN⟩
theorem TsP.form {w : World} {v : Value} {l : List Tm} (h : TsP w v l) : ∃ a cap, v = .slice a l.length cap := by
 rcases h with ⟨rfl, rfl⟩ | ⟨ad, cap, rfl, _⟩
 ·exact ⟨none, 0, rfl⟩
 ·exact ⟨some ad, cap, rfl⟩
theorem ownT_some {w : World} {base : Nat} {v : Value} {l : List Tm} {d : Tm} (h : OwnT w base v (l ++ [d])) : ∃ g cap, v = .slice (some ⟨g, 0, none⟩) (l.length + 1) cap /\ l.length + 1 <= cap := by
 rcases h.2 with ⟨_, hn⟩ | ⟨g, cap, cur, hv, _, _, hn, _⟩
 ·simp at hn
 ·rw [List.length_append, List.length_singleton] at hv hn; exact ⟨g, cap, hv, hn⟩
def LentT (X : World) (B : Nat) (v : Value) (l : List Tm) : Prop := ∃ g cap, v = .slice (some ⟨g, 0, none⟩) l.length cap /\ OwnT X B (.slice (some ⟨g, 0, none⟩) (l.length + 1) cap) (l ++ [bT])
theorem LentT.later {X X' : World} {B : Nat} {v : Value} {l : List Tm} (h : LentT X B v l) (hb : Below X.heap.size X X') : LentT X' B v l := by
 obtain ⟨g, cap, e, ho⟩ := h
 exact ⟨g, cap, e, ho.later hb⟩
theorem LentT.mono {X : World} {B B' : Nat} {v : Value} {l : List Tm} (h : LentT X B v l) (hb : B' <= B) : LentT X B' v l := by
 obtain ⟨g, cap, e, ho⟩ := h
 exact ⟨g, cap, e, ho.mono hb⟩
theorem LentT.ts {X : World} {B : Nat} {v : Value} {l : List Tm} (h : LentT X B v l) (hl : l.length < 1000000000000000000) : Ts X v l := by
 obtain ⟨g, cap, rfl, ho⟩ := h
 exact ownT_pre ho hl
end Go.Proofs.YtechceagghcipaaGreatDoor
