/-
  wire: the program's wire, what the law asks of it.
-/
import Derived.Test.YtboomeeipnfbmaaWQ9
namespace Go.Proofs.Ytboomeeipnfbmaa
open Go.RowKit

/-- Bytes of a call's own, or none. -/
def OzW (Y : World) (base : Nat) (u : Value) (l : List Int) : Prop := bytW l ∧ (OwW Y base u l ∨ (l = [] ∧ ∃ a, u = .slice a 0 0))
/-- A row of messages of a call's own. -/
structure OmW (base : Nat) (Y : World) (u : Value) (Z : List (MsW × Value)) : Prop where
  o : Y.ownsRow base 57 2 u Z.length (twoW (Z.map zcW)) ∨ (Z = [] ∧ ∃ a, u = .slice a 0 0)
  b : ∀ z ∈ Z, OzW Y base z.2 z.1.b
  d : ∀ (i j : Nat) (y z : MsW × Value) (x : Nat), Z[i]? = some y → Z[j]? = some z → y.1.b ≠ [] → z.1.b ≠ [] → y.2.ownBlock = some x → z.2.ownBlock = some x → i = j
def WzW (B : Nat) (T : Nat → Prop) (v : Value) (s : WrW) (Y : World) : Prop := WyW B T v s Y
def WqW (B : Nat) (T : Nat → Prop) (v : Value) (s : WrW) (Y Y' : World) : Prop := Fr T Y Y' ∧ ∃ T' : Nat → Prop, WzW B T' v s Y' ∧ ∀ b, T' b → T b ∨ Y.heap.size ≤ b
theorem WzW.fr {B : Nat} {T P : Nat → Prop} {v : Value} {s : WrW} {Y Y' : World} (h : WzW B T v s Y) (hf : Fr P Y Y') (hP : ∀ b, b < Y.heap.size → T b → ¬ P b) : WzW B T v s Y' := WyW.fr h hf hP
theorem WzW.below {B : Nat} {T : Nat → Prop} {v : Value} {s : WrW} {Y Y' : World} (h : WzW B T v s Y) (hb : Below Y.heap.size Y Y') : WzW B T v s Y' := h.fr (P := fun _ => False) (Fr.of hb) fun _ _ _ h => h
theorem WzW.ok {B : Nat} {T : Nat → Prop} {v : Value} {s : WrW} {Y : World} (h : WzW B T v s Y) : s.Ok := by obtain ⟨g, Z, rv, -, h⟩ := h; exact h.ok
theorem WzW.t {B : Nat} {T : Nat → Prop} {v : Value} {s : WrW} {Y : World} (h : WzW B T v s Y) : ∀ b, T b → B ≤ b ∧ b < Y.heap.size := by obtain ⟨g, Z, rv, -, h⟩ := h; exact h.t
theorem WzW.ptr {B : Nat} {T : Nat → Prop} {v : Value} {s : WrW} {Y : World} (h : WzW B T v s Y) : ∃ g, v = .pointer (some ⟨g, 0, none⟩) := by obtain ⟨g, Z, rv, e, -⟩ := h; exact ⟨g, e⟩
theorem WzW.lt {B : Nat} {T : Nat → Prop} {v : Value} {s : WrW} {Y : World} (h : WzW B T v s Y) : ∀ x, T x → x < Y.heap.size := fun x hx => (h.t x hx).2
theorem wnewW_any (B : Nat) (Y : World) (hB : B ≤ Y.heap.size) : Calls Try.prog 9 #[] Y fun e Y' => ∃ T v, e = .returned v ∧ WzW B T v ⟨[], 0⟩ Y' ∧ (∀ x, T x → Y.heap.size ≤ x) ∧ Below Y.heap.size Y Y' := ynewW_any B Y hB
theorem wsendW_any {B : Nat} {T G : Nat → Prop} {v bv : Value} {s : WrW} {b : List Int} {Y : World} (h : WzW B T v s Y) (hv : LbW G Y bv b) (hG : ∀ x, T x → ¬ G x) : Calls Try.prog 10 #[v, bv] Y fun e Y' => e = .returned (.tuple #[.int .i64 (sndN s b), .int .i64 (sndE s b)]) ∧ WqW B T v (sndS s b) Y Y' := ysend_any h hv hG
theorem wlookW_any {B : Nat} {T : Nat → Prop} {v : Value} {s : WrW} {Y : World} (h : WzW B T v s Y) (n : Int) : Calls Try.prog 15 #[v, .int .i64 n] Y fun e Y' => ∃ u, e = .returned (.tuple #[u, .int .i64 (lokE s n)]) ∧ OzW Y' Y.heap.size u (byW s n) ∧ Below Y.heap.size Y Y' := by
  refine (ylook_any h n).mono ?_
  rintro e Y' ⟨u, e1, e2, e3⟩
  exact ⟨u, e1, ⟨byW_byt h.ok n, e2⟩, e3⟩
theorem wtakeW_any {B : Nat} {T : Nat → Prop} {v : Value} {s : WrW} {Y : World} (h : WzW B T v s Y) (n : Int) : Calls Try.prog 11 #[v, .int .i64 n] Y fun e Y' => ∃ (u : Value) (T' : Nat → Prop), e = .returned (.tuple #[u, .int .i64 (lokE s n)]) ∧ WzW B T' v (takS s n) Y' ∧ (∀ x, T' x → T x ∨ Y.heap.size ≤ x) ∧ Fr T Y Y' ∧ LbW (fun x => (T x ∨ Y.heap.size ≤ x) ∧ ¬ T' x) Y' u (byW s n) := ytake_any h n
theorem wdropW_any {B : Nat} {T : Nat → Prop} {v : Value} {s : WrW} {Y : World} (h : WzW B T v s Y) (n : Int) : Calls Try.prog 14 #[v, .int .i64 n] Y fun e Y' => e = .returned (.int .i64 (lokE s n)) ∧ WqW B T v (takS s n) Y Y' := ydrop_any h n
theorem wcpyW_any {B : Nat} {T : Nat → Prop} {v : Value} {s : WrW} {Y : World} (h : WzW B T v s Y) (n : Int) : Calls Try.prog 13 #[v, .int .i64 n] Y fun e Y' => e = .returned (.tuple #[.int .i64 (cpyN s n), .int .i64 (cpyE s n)]) ∧ WqW B T v (cpyS s n) Y Y' := ycpy_any h n
theorem wswpW_any {B : Nat} {T : Nat → Prop} {v : Value} {s : WrW} {Y : World} (h : WzW B T v s Y) (n m : Int) : Calls Try.prog 16 #[v, .int .i64 n, .int .i64 m] Y fun e Y' => e = .returned (.int .i64 (swpE s n m)) ∧ WqW B T v (swpS s n m) Y Y' := yswp_any h n m
theorem wflpW_any {B : Nat} {T : Nat → Prop} {v : Value} {s : WrW} {Y : World} (h : WzW B T v s Y) (n at_ bits_ : Int) : Calls Try.prog 17 #[v, .int .i64 n, .int .i64 at_, .int .i64 bits_] Y fun e Y' => e = .returned (.int .i64 (flpE s n at_)) ∧ WqW B T v (flpS s n at_ bits_) Y Y' := yflp_any h n at_ bits_
theorem wcutW_any {B : Nat} {T : Nat → Prop} {v : Value} {s : WrW} {Y : World} (h : WzW B T v s Y) (n len_ : Int) : Calls Try.prog 18 #[v, .int .i64 n, .int .i64 len_] Y fun e Y' => e = .returned (.int .i64 (cutE s n len_)) ∧ WqW B T v (cutS s n len_) Y Y' := ycut_any h n len_
theorem wnextW_any {B : Nat} {T : Nat → Prop} {v : Value} {s : WrW} {Y : World} (h : WzW B T v s Y) : Calls Try.prog 25 #[v] Y fun e Y' => e = .returned (.int .i64 (nxtW s)) ∧ Below Y.heap.size Y Y' := ynext_any h
theorem wwaitW_any {B : Nat} {T : Nat → Prop} {v : Value} {s : WrW} {Y : World} (h : WzW B T v s Y) : Calls Try.prog 22 #[v] Y fun e Y' => ∃ u Z, e = .returned u ∧ Z.map Prod.fst = s.row ∧ OmW Y.heap.size Y' u Z ∧ Below Y.heap.size Y Y' := by
  have hok := h.ok
  refine (ywait_any h).mono ?_
  rintro e Y' ⟨G, Q, e1, e2, e3, e4⟩
  have hl : s.row.length = Q.length := by rw [← e2, List.length_map]
  refine ⟨_, Q, e1, e2, ⟨Or.inl ?_, fun z hz => ⟨?_, Or.inl (e3.u z hz).1⟩, fun i j y z x hi hj _ _ h1 h2 => e3.d i j y z x hi hj h1 h2⟩, e4⟩
  · obtain ⟨R, hR, hRl⟩ := e3.b
    rw [hl]
    have hr := hok.r
    have hg := hok.g
    exact row_join hR (by rw [twoW_len, List.length_map]) (by rw [twoW_len, List.length_map]; omega) (Nat.le_refl _) (by unfold maxLen; omega) e3.g
  · exact hok.b z.1 (by rw [← e2]; exact List.mem_map_of_mem hz)
end Go.Proofs.Ytboomeeipnfbmaa
