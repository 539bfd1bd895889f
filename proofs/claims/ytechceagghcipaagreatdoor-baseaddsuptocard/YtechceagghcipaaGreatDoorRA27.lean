import Derived.Test.YtechceagghcipaaGreatDoorRA26
namespace Go.Proofs.YtechceagghcipaaGreatDoor
open Go.RowKit

def AD (w : World) (g : Nat) (F S : Nat -> Prop) (m : Nat) (s : St7) (r : List Int) (e : Ending) (w' : World) : Prop :=
 e = .returned (.tuple #[.bool (decide (r ∉ s.rows)), .int .i64 0]) /\ (∃ F' S' : Nat -> Prop, RM w' g F' S' m (ad7 s r) /\ (∀ b, F' b -> F b ∨ w.heap.size <= b) /\ ∀ b, S' b -> S b ∨ w.heap.size <= b) /\ Fr F w w'
theorem add8_any (g : Nat) (F S G : Nat -> Prop) (m : Nat) (s : St7) (v : Value) (r : List Int) (w : World) (h : RM w g F S m s) (hv : Li G w v r) (he : r.length = s.wd) (hl : r.length <= 10000000000) (hc : s.rows.length < 10000000000) :
  Calls Tryz.prog 34 #[.pointer (some ⟨g, 0, none⟩), v] w (AD w g F S m s r) := by
 cases hx : txi s.rows (tx r) with
 | some i =>
  obtain ⟨r', h1, h2⟩ := txi_some hx
  have hm := List.mem_of_getElem? h1
  have e : r' = r := tx_inj (h.ok.w r' hm) hv.w h2
  rw [e] at hm
  refine (add7_old g F S G m s v r w h hv hl he (by rw [hx]; rfl)).mono ?_
  rintro e w' ⟨rfl, hb⟩
  refine ⟨by rw [decide_eq_false (by simpa using hm)], ⟨F, S, by rw [ad7, if_pos hm]; exact h.below hb, fun b hb => Or.inl hb, fun b hb => Or.inl hb⟩, Fr.of hb⟩
 | none =>
  have hm : r ∉ s.rows := fun hm => txi_none hx r hm rfl
  refine (add7_new g F S G m s v r w h hv hl he hx hc).mono ?_
  rintro e w' ⟨rfl, ⟨F', S', h1, h2, h3, -, -⟩, h4⟩
  exact ⟨by rw [decide_eq_true hm], ⟨F', S', by rw [ad7, if_neg hm]; exact h1, h2, h3⟩, h4⟩
end Go.Proofs.YtechceagghcipaaGreatDoor
