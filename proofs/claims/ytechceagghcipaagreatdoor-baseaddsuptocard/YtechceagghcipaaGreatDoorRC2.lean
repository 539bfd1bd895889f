import Derived.Test.YtechceagghcipaaGreatDoorRB1
import Derived.Test.YtechceagghcipaaGreatDoorRB3
import Derived.Test.YtechceagghcipaaGreatDoorRA45
import Derived.Test.YtechceagghcipaaGreatDoorRA16
import Derived.Laws.Cover1
import Derived.Deep.QuietTactic
import Derived.BigQuiet
import Derived.Laws.CopyOwn
namespace Go.Proofs.YtechceagghcipaaGreatDoor
open Go.RowKit Go.Shelf

def PT (w : World) (T : Nat -> Prop) (g m : Nat) (s : St7) (Y : World) : Prop :=
 ∃ F S : Nat -> Prop, RM Y g F S m s /\ (∀ b, F b ∨ S b -> T b) /\ (∀ b, T b -> w.heap.size <= b /\ b < Y.heap.size) /\ Below w.heap.size w Y
def PX (w : World) (T : Nat -> Prop) (g m : Nat) (s : St7) (Y Y' : World) : Prop := Fr T Y Y' /\ ∃ T' : Nat -> Prop, PT w T' g m s Y' /\ ∀ b, T' b -> T b ∨ Y.heap.size <= b
theorem PT.ok {w : World} {T : Nat -> Prop} {g m : Nat} {s : St7} {Y : World} (h : PT w T g m s Y) : s.Ok := by obtain ⟨F, S, h1, h2, h3, h4⟩ := h; exact h1.ok
theorem PT.t {w : World} {T : Nat -> Prop} {g m : Nat} {s : St7} {Y : World} (h : PT w T g m s Y) : ∀ b, T b -> w.heap.size <= b /\ b < Y.heap.size := by obtain ⟨F, S, h1, h2, h3, h4⟩ := h; exact h3
theorem PT.kr {w : World} {T : Nat -> Prop} {g m : Nat} {s : St7} {Y : World} (h : PT w T g m s Y) : KR w (fun b => b < Y.heap.size /\ ¬ T b) g m s Y := by
 obtain ⟨F, S, h1, h2, h3, h4⟩ := h
 exact ⟨F, S, h1, fun b hb => ⟨(h3 b (h2 b hb)).1, fun hc => hc.2 (h2 b hb)⟩, h4⟩
theorem PT.fr {w : World} {T P : Nat -> Prop} {g m : Nat} {s : St7} {Y Y' : World} (h : PT w T g m s Y) (hf : Fr P Y Y') (hP : ∀ b, P b -> b < Y.heap.size -> w.heap.size <= b /\ ¬ T b) : PT w T g m s Y' := by
 obtain ⟨F, S, h1, h2, h3, h4⟩ := h
 refine ⟨F, S, h1.same hf.size fun b hb hl => hf.block b hl fun hc => (hP b hc hl).2 (h2 b hb), h2, fun b hb => ⟨(h3 b hb).1, Nat.lt_of_lt_of_le (h3 b hb).2 hf.size⟩, h4.trans (Fr.low (Fr.mono hf (Q := fun b => w.heap.size <= b) fun b hl hb => (hP b hb hl).1) h4.size)⟩
theorem PT.below {w : World} {T : Nat -> Prop} {g m : Nat} {s : St7} {Y Y' : World} (h : PT w T g m s Y) (hb : Below Y.heap.size Y Y') : PT w T g m s Y' := h.fr (P := fun _ => False) (Fr.of hb) fun _ h => h.elim
theorem PX.of {w : World} {T : Nat -> Prop} {g m : Nat} {s : St7} {Y Y' : World} (h : KR w (fun b => b < Y.heap.size /\ ¬ T b) g m s Y') (hf : Fx w (fun b => b < Y.heap.size /\ ¬ T b) Y Y') : PX w T g m s Y Y' := by
 obtain ⟨F, S, h1, h2, h3⟩ := h
 have hz := hf.size
 refine ⟨Fr.mono hf fun b hl hb => Classical.byContradiction fun hc => hb.2 ⟨hl, hc⟩, fun b => (T b ∨ Y.heap.size <= b) /\ w.heap.size <= b /\ b < Y'.heap.size, ⟨F, S, h1, fun b hb => ⟨?_, (h2 b hb).1, hb.elim (fun h => (h1.q b h).2) (h1.q2 b)⟩, fun b hb => ⟨hb.2.1, hb.2.2⟩, h3⟩, fun b hb => hb.1⟩
 by_cases hl : Y.heap.size <= b
 ·exact Or.inr hl
 ·exact Or.inl (Classical.byContradiction fun hc => (h2 b hb).2 ⟨by omega, hc⟩)
theorem PT.add {w Y : World} {T : Nat -> Prop} {g m : Nat} {s : St7} {G : Nat -> Prop} {v : Value} {r : List Int} (h : PT w T g m s Y) (hv : Li G Y v r) (he : r.length = s.wd) (hl : r.length <= 10000000000) (hc : s.rows.length < 10000000000) :
  Calls Tryz.prog 34 #[.pointer (some ⟨g, 0, none⟩), v] Y fun e Y' => e = .returned (.tuple #[.bool (decide (r ∉ s.rows)), .int .i64 0]) /\ PX w T g m (ad7 s r) Y Y' := by
 refine (h.kr.add (fun b hb => hb.1) hv he hl hc).mono ?_
 rintro e Y' ⟨rfl, k1, k2⟩
 exact ⟨rfl, PX.of k1 k2⟩
theorem PT.turn {w Y : World} {T : Nat -> Prop} {g m : Nat} {s : St7} (h : PT w T g m s Y) :
  Calls Tryz.prog 35 #[.pointer (some ⟨g, 0, none⟩)] Y fun e Y' => e = .returned (.int .i64 ((s.rows.length : Int) - (s.xf : Int))) /\ PX w T g m (Turn7 s) Y Y' := by
 refine h.kr.turn.mono ?_
 rintro e Y' ⟨rfl, k1, k2⟩
 exact ⟨rfl, PX.of k1 k2⟩
theorem len7_four (s : St7) : len7 s 4 = (s.rows.length : Int) - (s.xf : Int) := by
 unfold len7 sts7
 rw [show hp7 4 1 = false by decide, show hp7 4 2 = false by decide, show hp7 4 4 = true by decide]
 simp [sum7]
theorem txi_at {s : St7} (ho : s.Ok) {i : Nat} {r : List Int} (h : s.rows[i]? = some r) : txi s.rows (tx r) = some i := by
 cases hx : txi s.rows (tx r) with
 | none => exact absurd rfl (txi_none hx r (List.mem_of_getElem? h))
 | some j =>
  obtain ⟨r', h1, h2⟩ := txi_some hx
  have e : r' = r := tx_inj (ho.w r' (List.mem_of_getElem? h1)) (ho.w r (List.mem_of_getElem? h)) h2
  subst e
  obtain ⟨a1, e1⟩ := List.getElem?_eq_some_iff.1 h1
  obtain ⟨a2, e2⟩ := List.getElem?_eq_some_iff.1 h
  have := (List.getElem_inj ho.nd).1 (e1.trans e2.symm)
  rw [this]
theorem part7_at {s : St7} (ho : s.Ok) {i : Nat} {r : List Int} (h : s.rows[i]? = some r) : part7 s r = if i < s.nf then 1 else if i < s.xf then 2 else 4 := by
 unfold part7
 rw [txi_at ho h]
end Go.Proofs.YtechceagghcipaaGreatDoor
