/-
  wire: the program's wire, what the law asks of it.
-/
import Derived.Test.YtboomeeipnfbmaaWQ7
import Derived.Deep.RegionHeld3
namespace Go.Proofs.Ytboomeeipnfbmaa
open Go.RowKit

/-- Bytes of a call's own, or none. -/
def OzW (Y : World) (base : Nat) (u : Value) (l : List Int) : Prop := bytW l ∧ (OwW Y base u l ∨ (l = [] ∧ ∃ a, u = .slice a 0 0))
def WzW (B : Nat) (T : Nat → Prop) (v : Value) (s : WrW) (Y : World) : Prop := WyW B T v s Y
def WqW (B : Nat) (T : Nat → Prop) (v : Value) (s : WrW) (Y Y' : World) : Prop := Fr T Y Y' ∧ ∃ T' : Nat → Prop, WzW B T' v s Y' ∧ ∀ b, T' b → T b ∨ Y.heap.size ≤ b
theorem WzW.fr {B : Nat} {T P : Nat → Prop} {v : Value} {s : WrW} {Y Y' : World} (h : WzW B T v s Y) (hf : Fr P Y Y') (hP : ∀ b, b < Y.heap.size → T b → ¬ P b) : WzW B T v s Y' := WyW.fr h hf hP
theorem WzW.below {B : Nat} {T : Nat → Prop} {v : Value} {s : WrW} {Y Y' : World} (h : WzW B T v s Y) (hb : Below Y.heap.size Y Y') : WzW B T v s Y' := h.fr (P := fun _ => False) (Fr.of hb) fun _ _ _ h => h
theorem WzW.ok {B : Nat} {T : Nat → Prop} {v : Value} {s : WrW} {Y : World} (h : WzW B T v s Y) : s.Ok := by obtain ⟨g, Z, rv, -, h⟩ := h; exact h.ok
theorem WzW.t {B : Nat} {T : Nat → Prop} {v : Value} {s : WrW} {Y : World} (h : WzW B T v s Y) : ∀ b, T b → B ≤ b ∧ b < Y.heap.size := by obtain ⟨g, Z, rv, -, h⟩ := h; exact h.t
theorem WzW.ptr {B : Nat} {T : Nat → Prop} {v : Value} {s : WrW} {Y : World} (h : WzW B T v s Y) : ∃ g, v = .pointer (some ⟨g, 0, none⟩) := by obtain ⟨g, Z, rv, e, -⟩ := h; exact ⟨g, e⟩
theorem WzW.lt {B : Nat} {T : Nat → Prop} {v : Value} {s : WrW} {Y : World} (h : WzW B T v s Y) : ∀ x, T x → x < Y.heap.size := fun x hx => (h.t x hx).2
theorem wnewW_any (B : Nat) (Y : World) (hB : B ≤ Y.heap.size) : Calls Try.prog 9 #[] Y fun e Y' => ∃ T v, e = .returned v ∧ WzW B T v ⟨[], 0⟩ Y' ∧ (∀ x, T x → Y.heap.size ≤ x) ∧ Below Y.heap.size Y Y' := ynewW_any B Y hB
theorem wsendW_any {B : Nat} {T G : Nat → Prop} {v bv : Value} {s : WrW} {b : List Int} {Y : World} (h : WzW B T v s Y) (hv : LbW G Y bv b) (hG : ∀ x, T x → ¬ G x) : Calls Try.prog 10 #[v, bv] Y fun e Y' => e = .returned (.tuple #[.int .i64 (sndN s b), .int .i64 (sndE s b)]) ∧ WqW B T v (sndS s b) Y Y' := ysend_any h hv hG
theorem wlookW_any {B : Nat} {T : Nat → Prop} {v : Value} {s : WrW} {Y : World} (h : WzW B T v s Y) (n : Int) : Calls Try.prog 15 #[v, .int .i64 n] Y fun e Y' => ∃ u, e = .returned (.tuple #[u, .int .i64 (lokE s n)]) ∧ OzW Y' Y.heap.size u (byW s n) ∧ Below Y.heap.size Y Y' := by
  refine (ylook_any h n).mono ?_
  rintro e Y' ⟨u, e1, e2, e3⟩
  exact ⟨u, e1, ⟨byW_byt h.ok n, e2⟩, e3⟩
theorem wtakeW_any {B : Nat} {T : Nat → Prop} {v : Value} {s : WrW} {Y : World} (h : WzW B T v s Y) (n : Int) : Calls Try.prog 11 #[v, .int .i64 n] Y fun e Y' => ∃ (u : Value) (T' : Nat → Prop), e = .returned (.tuple #[u, .int .i64 (lokE s n)]) ∧ WzW B T' v (takS s n) Y' ∧ (∀ x, T' x → T x ∨ Y.heap.size ≤ x) ∧ Fr T Y Y' ∧ LbW (fun x => (T x ∨ Y.heap.size ≤ x) ∧ ¬ T' x) Y' u (byW s n) := ytake_any h n
theorem wdropW_any {B : Nat} {T : Nat → Prop} {v : Value} {s : WrW} {Y : World} (h : WzW B T v s Y) (n : Int) : Calls Try.prog 14 #[v, .int .i64 n] Y fun e Y' => e = .returned (.int .i64 (lokE s n)) ∧ WqW B T v (takS s n) Y Y' := ydrop_any h n
theorem wcpyW_any {B : Nat} {T : Nat → Prop} {v : Value} {s : WrW} {Y : World} (h : WzW B T v s Y) (n : Int) : Calls Try.prog 13 #[v, .int .i64 n] Y fun e Y' => e = .returned (.tuple #[.int .i64 (cpyN s n), .int .i64 (cpyE s n)]) ∧ WqW B T v (cpyS s n) Y Y' := ycpy_any h n
end Go.Proofs.Ytboomeeipnfbmaa
