/-
  first: a call whose answer the document fixes. (Written by CL21.py.)
-/
import Derived.Test.YtdfgijdededolabGreatDoorCL20
import Derived.Test.YtdfgijdededolabGreatDoorCL7
namespace Go.Proofs.YtdfgijdededolabGreatDoor
open Go.RowKit
attribute [local go_sem ↓] Go.wp_at_zero Go.wp_at_succ

theorem ts_one {W : World} {b : Nat} {k n : Int} {s : ByteArray} (h : CBlk W b #[.int .i64 k, .int .i64 n, .string s] 35) : Ts W (.slice (some ⟨b, 0, none⟩) 1 1) [⟨k, n, s⟩] := by
  refine ⟨some ⟨b, 0, none⟩, 1, rfl, by simp, Or.inr ⟨b, 0, rfl, h.lt, fun i t ht => ?_⟩⟩
  obtain ⟨h1, h2⟩ := List.getElem?_eq_some_iff.1 ht
  obtain rfl : i = 0 := by simpa using h1
  obtain rfl : (⟨k, n, s⟩ : Tm) = t := h2
  exact ⟨cell_of_row _ _ _ _ _ _ h, cell_of_row _ _ _ _ _ _ h, cell_of_row _ _ _ _ _ _ h⟩
theorem ts_none (W : World) : Ts W (.slice none 0 0) [] := ⟨none, 0, rfl, by simp, Or.inl rfl⟩
theorem as_two {W : World} {b : Nat} {k n k' n' : Int} {s m s' m' : ByteArray} {l l' : List Tm} {v v' : Value} (h : CBlk W b #[.int .i64 k, .int .i64 n, .string s, .string m, v, .int .i64 k', .int .i64 n', .string s', .string m', v'] 37) (h1 : Ts W v l) (h2 : Ts W v' l') :
    As W (.slice (some ⟨b, 0, none⟩) 2 2) [(⟨⟨k, n, s⟩, m, l⟩, v), (⟨⟨k', n', s'⟩, m', l'⟩, v')] := by
  refine ⟨some ⟨b, 0, none⟩, 2, rfl, by simp, Or.inr ⟨b, 0, rfl, h.lt, fun i x hx => ?_⟩, fun x hx => ?_⟩
  · obtain ⟨e1, e2⟩ := List.getElem?_eq_some_iff.1 hx
    have hi : i < 2 := by simpa using e1
    rcases (by omega : i = 0 ∨ i = 1) with rfl | rfl
    · obtain rfl : ((⟨⟨k, n, s⟩, m, l⟩, v) : At × Value) = x := e2
      exact ⟨cell_of_row _ _ _ _ _ _ h, cell_of_row _ _ _ _ _ _ h, cell_of_row _ _ _ _ _ _ h, cell_of_row _ _ _ _ _ _ h, cell_of_row _ _ _ _ _ _ h⟩
    · obtain rfl : ((⟨⟨k', n', s'⟩, m', l'⟩, v') : At × Value) = x := e2
      exact ⟨cell_of_row _ _ _ _ _ _ h, cell_of_row _ _ _ _ _ _ h, cell_of_row _ _ _ _ _ _ h, cell_of_row _ _ _ _ _ _ h, cell_of_row _ _ _ _ _ _ h⟩
  · simp only [List.mem_cons, List.not_mem_nil, or_false] at hx
    rcases hx with rfl | rfl
    · exact h1
    · exact h2
theorem fsts_two {l : List (At × Value)} {a b : At} (h : fsts l = [a, b]) : ∃ p q, l = [(a, p), (b, q)] := by
  match l, h with
  | [(x, p), (y, q)], h =>
    simp only [fsts, List.map_cons, List.map_nil, List.cons.injEq, and_true] at h
    obtain ⟨rfl, rfl⟩ := h
    exact ⟨p, q, rfl⟩
  | [], h => cases h
  | [_], h => simp [fsts] at h
  | _ :: _ :: _ :: _, h => simp [fsts] at h
/-- The memory that first lays. -/
structure FS (w X : World) : Prop where
  x : CBlk X (w.heap.size) #[.int .i64 3, .int .i64 0, .string ⟨#[]⟩] 35
  b : CBlk X (w.heap.size + 1) #[.int .i64 2, .int .i64 0, .string ⟨#[97, 108, 105, 99, 101]⟩] 35
  a1 : CBlk X (w.heap.size + 1 + 1) #[.int .i64 3, .int .i64 0, .string ⟨#[]⟩] 35
  a2 : CBlk X (w.heap.size + 1 + 1 + 1) #[.int .i64 3, .int .i64 0, .string ⟨#[]⟩] 35
  at_ : CBlk X (w.heap.size + 1 + 1 + 1 + 1) #[.int .i64 3, .int .i64 0, .string ⟨#[]⟩, .string ⟨#[111, 107]⟩, .slice none 0 0, .int .i64 0, .int .i64 0, .string ⟨#[]⟩, .string ⟨#[102, 114, 105, 101, 110, 100]⟩, .slice (some ⟨w.heap.size + 1 + 1 + 1, 0, none⟩) 1 1] 37
  c : CBlk X (w.heap.size + 1 + 1 + 1 + 1 + 1) #[.int .i64 0, .int .i64 0, .string ⟨#[]⟩, .string ⟨#[103, 111, 111, 100]⟩, .slice (some ⟨w.heap.size + 1 + 1, 0, none⟩) 1 1, .slice (some ⟨w.heap.size + 1 + 1 + 1 + 1, 0, none⟩) 2 2, .slice none 0 0] 41
  bw : Below w.heap.size w X
theorem FS.later {w X X' : World} (h : FS w X) (hb : Below X.heap.size X X') : FS w X' := ⟨h.x.later hb, h.b.later hb, h.a1.later hb, h.a2.later hb, h.at_.later hb, h.c.later hb, below_step h.bw hb⟩
theorem FS.start (w : World) : FS w ((((((w.alloc (.cells #[.int .i64 3, .int .i64 0, .string ⟨#[]⟩] 35)).alloc (.cells #[.int .i64 2, .int .i64 0, .string ⟨#[97, 108, 105, 99, 101]⟩] 35)).alloc (.cells #[.int .i64 3, .int .i64 0, .string ⟨#[]⟩] 35)).alloc (.cells #[.int .i64 3, .int .i64 0, .string ⟨#[]⟩] 35)).alloc (.cells #[.int .i64 3, .int .i64 0, .string ⟨#[]⟩, .string ⟨#[111, 107]⟩, .slice none 0 0, .int .i64 0, .int .i64 0, .string ⟨#[]⟩, .string ⟨#[102, 114, 105, 101, 110, 100]⟩, .slice (some ⟨w.heap.size + 1 + 1 + 1, 0, none⟩) 1 1] 37)).alloc (.cells #[.int .i64 0, .int .i64 0, .string ⟨#[]⟩, .string ⟨#[103, 111, 111, 100]⟩, .slice (some ⟨w.heap.size + 1 + 1, 0, none⟩) 1 1, .slice (some ⟨w.heap.size + 1 + 1 + 1 + 1, 0, none⟩) 2 2, .slice none 0 0] 41)) := by
  have s1 : (w.alloc (.cells #[.int .i64 3, .int .i64 0, .string ⟨#[]⟩] 35)).heap.size = w.heap.size + 1 := by simp
  have s2 : ((w.alloc (.cells #[.int .i64 3, .int .i64 0, .string ⟨#[]⟩] 35)).alloc (.cells #[.int .i64 2, .int .i64 0, .string ⟨#[97, 108, 105, 99, 101]⟩] 35)).heap.size = w.heap.size + 1 + 1 := by simp
  have s3 : (((w.alloc (.cells #[.int .i64 3, .int .i64 0, .string ⟨#[]⟩] 35)).alloc (.cells #[.int .i64 2, .int .i64 0, .string ⟨#[97, 108, 105, 99, 101]⟩] 35)).alloc (.cells #[.int .i64 3, .int .i64 0, .string ⟨#[]⟩] 35)).heap.size = w.heap.size + 1 + 1 + 1 := by simp
  have s4 : ((((w.alloc (.cells #[.int .i64 3, .int .i64 0, .string ⟨#[]⟩] 35)).alloc (.cells #[.int .i64 2, .int .i64 0, .string ⟨#[97, 108, 105, 99, 101]⟩] 35)).alloc (.cells #[.int .i64 3, .int .i64 0, .string ⟨#[]⟩] 35)).alloc (.cells #[.int .i64 3, .int .i64 0, .string ⟨#[]⟩] 35)).heap.size = w.heap.size + 1 + 1 + 1 + 1 := by simp
  have s5 : (((((w.alloc (.cells #[.int .i64 3, .int .i64 0, .string ⟨#[]⟩] 35)).alloc (.cells #[.int .i64 2, .int .i64 0, .string ⟨#[97, 108, 105, 99, 101]⟩] 35)).alloc (.cells #[.int .i64 3, .int .i64 0, .string ⟨#[]⟩] 35)).alloc (.cells #[.int .i64 3, .int .i64 0, .string ⟨#[]⟩] 35)).alloc (.cells #[.int .i64 3, .int .i64 0, .string ⟨#[]⟩, .string ⟨#[111, 107]⟩, .slice none 0 0, .int .i64 0, .int .i64 0, .string ⟨#[]⟩, .string ⟨#[102, 114, 105, 101, 110, 100]⟩, .slice (some ⟨w.heap.size + 1 + 1 + 1, 0, none⟩) 1 1] 37)).heap.size = w.heap.size + 1 + 1 + 1 + 1 + 1 := by simp
  have k1 := CBlk.new w #[.int .i64 3, .int .i64 0, .string ⟨#[]⟩] 35
  have k2 := CBlk.new (w.alloc (.cells #[.int .i64 3, .int .i64 0, .string ⟨#[]⟩] 35)) #[.int .i64 2, .int .i64 0, .string ⟨#[97, 108, 105, 99, 101]⟩] 35
  have k3 := CBlk.new ((w.alloc (.cells #[.int .i64 3, .int .i64 0, .string ⟨#[]⟩] 35)).alloc (.cells #[.int .i64 2, .int .i64 0, .string ⟨#[97, 108, 105, 99, 101]⟩] 35)) #[.int .i64 3, .int .i64 0, .string ⟨#[]⟩] 35
  have k4 := CBlk.new (((w.alloc (.cells #[.int .i64 3, .int .i64 0, .string ⟨#[]⟩] 35)).alloc (.cells #[.int .i64 2, .int .i64 0, .string ⟨#[97, 108, 105, 99, 101]⟩] 35)).alloc (.cells #[.int .i64 3, .int .i64 0, .string ⟨#[]⟩] 35)) #[.int .i64 3, .int .i64 0, .string ⟨#[]⟩] 35
  have k5 := CBlk.new ((((w.alloc (.cells #[.int .i64 3, .int .i64 0, .string ⟨#[]⟩] 35)).alloc (.cells #[.int .i64 2, .int .i64 0, .string ⟨#[97, 108, 105, 99, 101]⟩] 35)).alloc (.cells #[.int .i64 3, .int .i64 0, .string ⟨#[]⟩] 35)).alloc (.cells #[.int .i64 3, .int .i64 0, .string ⟨#[]⟩] 35)) #[.int .i64 3, .int .i64 0, .string ⟨#[]⟩, .string ⟨#[111, 107]⟩, .slice none 0 0, .int .i64 0, .int .i64 0, .string ⟨#[]⟩, .string ⟨#[102, 114, 105, 101, 110, 100]⟩, .slice (some ⟨w.heap.size + 1 + 1 + 1, 0, none⟩) 1 1] 37
  have k6 := CBlk.new (((((w.alloc (.cells #[.int .i64 3, .int .i64 0, .string ⟨#[]⟩] 35)).alloc (.cells #[.int .i64 2, .int .i64 0, .string ⟨#[97, 108, 105, 99, 101]⟩] 35)).alloc (.cells #[.int .i64 3, .int .i64 0, .string ⟨#[]⟩] 35)).alloc (.cells #[.int .i64 3, .int .i64 0, .string ⟨#[]⟩] 35)).alloc (.cells #[.int .i64 3, .int .i64 0, .string ⟨#[]⟩, .string ⟨#[111, 107]⟩, .slice none 0 0, .int .i64 0, .int .i64 0, .string ⟨#[]⟩, .string ⟨#[102, 114, 105, 101, 110, 100]⟩, .slice (some ⟨w.heap.size + 1 + 1 + 1, 0, none⟩) 1 1] 37)) #[.int .i64 0, .int .i64 0, .string ⟨#[]⟩, .string ⟨#[103, 111, 111, 100]⟩, .slice (some ⟨w.heap.size + 1 + 1, 0, none⟩) 1 1, .slice (some ⟨w.heap.size + 1 + 1 + 1 + 1, 0, none⟩) 2 2, .slice none 0 0] 41
  rw [s1] at k2
  rw [s2] at k3
  rw [s3] at k4
  rw [s4] at k5
  rw [s5] at k6
  have b1 := below1 w (.cells #[.int .i64 3, .int .i64 0, .string ⟨#[]⟩] 35)
  have b2 := below1 (w.alloc (.cells #[.int .i64 3, .int .i64 0, .string ⟨#[]⟩] 35)) (.cells #[.int .i64 2, .int .i64 0, .string ⟨#[97, 108, 105, 99, 101]⟩] 35)
  have b3 := below1 ((w.alloc (.cells #[.int .i64 3, .int .i64 0, .string ⟨#[]⟩] 35)).alloc (.cells #[.int .i64 2, .int .i64 0, .string ⟨#[97, 108, 105, 99, 101]⟩] 35)) (.cells #[.int .i64 3, .int .i64 0, .string ⟨#[]⟩] 35)
  have b4 := below1 (((w.alloc (.cells #[.int .i64 3, .int .i64 0, .string ⟨#[]⟩] 35)).alloc (.cells #[.int .i64 2, .int .i64 0, .string ⟨#[97, 108, 105, 99, 101]⟩] 35)).alloc (.cells #[.int .i64 3, .int .i64 0, .string ⟨#[]⟩] 35)) (.cells #[.int .i64 3, .int .i64 0, .string ⟨#[]⟩] 35)
  have b5 := below1 ((((w.alloc (.cells #[.int .i64 3, .int .i64 0, .string ⟨#[]⟩] 35)).alloc (.cells #[.int .i64 2, .int .i64 0, .string ⟨#[97, 108, 105, 99, 101]⟩] 35)).alloc (.cells #[.int .i64 3, .int .i64 0, .string ⟨#[]⟩] 35)).alloc (.cells #[.int .i64 3, .int .i64 0, .string ⟨#[]⟩] 35)) (.cells #[.int .i64 3, .int .i64 0, .string ⟨#[]⟩, .string ⟨#[111, 107]⟩, .slice none 0 0, .int .i64 0, .int .i64 0, .string ⟨#[]⟩, .string ⟨#[102, 114, 105, 101, 110, 100]⟩, .slice (some ⟨w.heap.size + 1 + 1 + 1, 0, none⟩) 1 1] 37)
  have b6 := below1 (((((w.alloc (.cells #[.int .i64 3, .int .i64 0, .string ⟨#[]⟩] 35)).alloc (.cells #[.int .i64 2, .int .i64 0, .string ⟨#[97, 108, 105, 99, 101]⟩] 35)).alloc (.cells #[.int .i64 3, .int .i64 0, .string ⟨#[]⟩] 35)).alloc (.cells #[.int .i64 3, .int .i64 0, .string ⟨#[]⟩] 35)).alloc (.cells #[.int .i64 3, .int .i64 0, .string ⟨#[]⟩, .string ⟨#[111, 107]⟩, .slice none 0 0, .int .i64 0, .int .i64 0, .string ⟨#[]⟩, .string ⟨#[102, 114, 105, 101, 110, 100]⟩, .slice (some ⟨w.heap.size + 1 + 1 + 1, 0, none⟩) 1 1] 37)) (.cells #[.int .i64 0, .int .i64 0, .string ⟨#[]⟩, .string ⟨#[103, 111, 111, 100]⟩, .slice (some ⟨w.heap.size + 1 + 1, 0, none⟩) 1 1, .slice (some ⟨w.heap.size + 1 + 1 + 1 + 1, 0, none⟩) 2 2, .slice none 0 0] 41)
  exact ⟨((((k1.later b2).later b3).later b4).later b5).later b6, (((k2.later b3).later b4).later b5).later b6, ((k3.later b4).later b5).later b6, (k4.later b5).later b6, k5.later b6, k6, below_step (below_step (below_step (below_step (below_step b1 b2) b3) b4) b5) b6⟩
theorem FS.ok {w X : World} (h : FS w X) : Cm.ok X ⟨(⟨⟨0, 0, ⟨#[]⟩⟩, ⟨#[103, 111, 111, 100]⟩, [⟨3, 0, ⟨#[]⟩⟩]⟩, .slice (some ⟨w.heap.size + 1 + 1, 0, none⟩) 1 1), [(⟨⟨3, 0, ⟨#[]⟩⟩, ⟨#[111, 107]⟩, []⟩, .slice none 0 0), (⟨⟨0, 0, ⟨#[]⟩⟩, ⟨#[102, 114, 105, 101, 110, 100]⟩, [⟨3, 0, ⟨#[]⟩⟩]⟩, .slice (some ⟨w.heap.size + 1 + 1 + 1, 0, none⟩) 1 1)], .slice (some ⟨w.heap.size + 1 + 1 + 1 + 1, 0, none⟩) 2 2, [], .slice none 0 0⟩ :=
  ⟨ts_one h.a1, as_two h.at_ (ts_none X) (ts_one h.a2), ⟨none, 0, rfl, by simp, Or.inl rfl⟩⟩
theorem first_wf (w : World) : Cm.wf ⟨(⟨⟨0, 0, ⟨#[]⟩⟩, ⟨#[103, 111, 111, 100]⟩, [⟨3, 0, ⟨#[]⟩⟩]⟩, .slice (some ⟨w.heap.size + 1 + 1, 0, none⟩) 1 1), [(⟨⟨3, 0, ⟨#[]⟩⟩, ⟨#[111, 107]⟩, []⟩, .slice none 0 0), (⟨⟨0, 0, ⟨#[]⟩⟩, ⟨#[102, 114, 105, 101, 110, 100]⟩, [⟨3, 0, ⟨#[]⟩⟩]⟩, .slice (some ⟨w.heap.size + 1 + 1 + 1, 0, none⟩) 1 1)], .slice (some ⟨w.heap.size + 1 + 1 + 1 + 1, 0, none⟩) 2 2, [], .slice none 0 0⟩ := by
  constructor
  · intro t ht _
    simp [Cm.terms, Cm.atoms, At.pl] at ht
    rcases ht with rfl | rfl | rfl | rfl | rfl <;> rfl
  · simp [Cm.terms, Cm.atoms, At.pl]
theorem first_chk (w : World) : Cm.chk ⟨(⟨⟨0, 0, ⟨#[]⟩⟩, ⟨#[103, 111, 111, 100]⟩, [⟨3, 0, ⟨#[]⟩⟩]⟩, .slice (some ⟨w.heap.size + 1 + 1, 0, none⟩) 1 1), [(⟨⟨3, 0, ⟨#[]⟩⟩, ⟨#[111, 107]⟩, []⟩, .slice none 0 0), (⟨⟨0, 0, ⟨#[]⟩⟩, ⟨#[102, 114, 105, 101, 110, 100]⟩, [⟨3, 0, ⟨#[]⟩⟩]⟩, .slice (some ⟨w.heap.size + 1 + 1 + 1, 0, none⟩) 1 1)], .slice (some ⟨w.heap.size + 1 + 1 + 1 + 1, 0, none⟩) 2 2, [], .slice none 0 0⟩ = 0 := by kernel_rfl
theorem first_prin : Tm.prin ⟨2, 0, ⟨#[97, 108, 105, 99, 101]⟩⟩ = true := by kernel_rfl
theorem first_vars (w : World) : (dis (Cm.vars ⟨(⟨⟨0, 0, ⟨#[]⟩⟩, ⟨#[103, 111, 111, 100]⟩, [⟨3, 0, ⟨#[]⟩⟩]⟩, .slice (some ⟨w.heap.size + 1 + 1, 0, none⟩) 1 1), [(⟨⟨3, 0, ⟨#[]⟩⟩, ⟨#[111, 107]⟩, []⟩, .slice none 0 0), (⟨⟨0, 0, ⟨#[]⟩⟩, ⟨#[102, 114, 105, 101, 110, 100]⟩, [⟨3, 0, ⟨#[]⟩⟩]⟩, .slice (some ⟨w.heap.size + 1 + 1 + 1, 0, none⟩) 1 1)], .slice (some ⟨w.heap.size + 1 + 1 + 1 + 1, 0, none⟩) 2 2, [], .slice none 0 0⟩)).length = 1 := by kernel_rfl
theorem first_quo (w : World) : fsts (Cm.quo ⟨(⟨⟨0, 0, ⟨#[]⟩⟩, ⟨#[103, 111, 111, 100]⟩, [⟨3, 0, ⟨#[]⟩⟩]⟩, .slice (some ⟨w.heap.size + 1 + 1, 0, none⟩) 1 1), [(⟨⟨3, 0, ⟨#[]⟩⟩, ⟨#[111, 107]⟩, []⟩, .slice none 0 0), (⟨⟨0, 0, ⟨#[]⟩⟩, ⟨#[102, 114, 105, 101, 110, 100]⟩, [⟨3, 0, ⟨#[]⟩⟩]⟩, .slice (some ⟨w.heap.size + 1 + 1 + 1, 0, none⟩) 1 1)], .slice (some ⟨w.heap.size + 1 + 1 + 1 + 1, 0, none⟩) 2 2, [], .slice none 0 0⟩ ⟨#[97, 108, 105, 99, 101]⟩).body = [⟨⟨3, 0, ⟨#[]⟩⟩, ⟨#[111, 107]⟩, []⟩, ⟨⟨2, 0, ⟨#[97, 108, 105, 99, 101]⟩⟩, ⟨#[102, 114, 105, 101, 110, 100]⟩, [⟨3, 0, ⟨#[]⟩⟩]⟩] := by kernel_rfl

set_option maxRecDepth 20000 in
set_option maxHeartbeats 8000000 in
theorem first3_any (w : World) : Calls Tryz.prog 16 #[] w fun e w' => e = .returned (.bool true) ∧ Below w.heap.size w w' := by
  have HFS : Hid (FS w ((((((w.alloc (.cells #[.int .i64 3, .int .i64 0, .string ⟨#[]⟩] 35)).alloc (.cells #[.int .i64 2, .int .i64 0, .string ⟨#[97, 108, 105, 99, 101]⟩] 35)).alloc (.cells #[.int .i64 3, .int .i64 0, .string ⟨#[]⟩] 35)).alloc (.cells #[.int .i64 3, .int .i64 0, .string ⟨#[]⟩] 35)).alloc (.cells #[.int .i64 3, .int .i64 0, .string ⟨#[]⟩, .string ⟨#[111, 107]⟩, .slice none 0 0, .int .i64 0, .int .i64 0, .string ⟨#[]⟩, .string ⟨#[102, 114, 105, 101, 110, 100]⟩, .slice (some ⟨w.heap.size + 1 + 1 + 1, 0, none⟩) 1 1] 37)).alloc (.cells #[.int .i64 0, .int .i64 0, .string ⟨#[]⟩, .string ⟨#[103, 111, 111, 100]⟩, .slice (some ⟨w.heap.size + 1 + 1, 0, none⟩) 1 1, .slice (some ⟨w.heap.size + 1 + 1 + 1 + 1, 0, none⟩) 2 2, .slice none 0 0] 41)) ) := FS.start w
  go_enter Tryz.func16, Tryz.ntmps16
  go_upto_region 4 with fail
  revert HFS
  generalize ((((((w.alloc (.cells #[.int .i64 3, .int .i64 0, .string ⟨#[]⟩] 35)).alloc (.cells #[.int .i64 2, .int .i64 0, .string ⟨#[97, 108, 105, 99, 101]⟩] 35)).alloc (.cells #[.int .i64 3, .int .i64 0, .string ⟨#[]⟩] 35)).alloc (.cells #[.int .i64 3, .int .i64 0, .string ⟨#[]⟩] 35)).alloc (.cells #[.int .i64 3, .int .i64 0, .string ⟨#[]⟩, .string ⟨#[111, 107]⟩, .slice none 0 0, .int .i64 0, .int .i64 0, .string ⟨#[]⟩, .string ⟨#[102, 114, 105, 101, 110, 100]⟩, .slice (some ⟨w.heap.size + 1 + 1 + 1, 0, none⟩) 1 1] 37)).alloc (.cells #[.int .i64 0, .int .i64 0, .string ⟨#[]⟩, .string ⟨#[103, 111, 111, 100]⟩, .slice (some ⟨w.heap.size + 1 + 1, 0, none⟩) 1 1, .slice (some ⟨w.heap.size + 1 + 1 + 1 + 1, 0, none⟩) 2 2, .slice none 0 0] 41)) = W
  intro HFS
  have HQT : Hid (Calls Tryz.prog 43 #[.string ⟨#[97, 108, 105, 99, 101]⟩, Cm.v ⟨(⟨⟨0, 0, ⟨#[]⟩⟩, ⟨#[103, 111, 111, 100]⟩, [⟨3, 0, ⟨#[]⟩⟩]⟩, .slice (some ⟨w.heap.size + 1 + 1, 0, none⟩) 1 1), [(⟨⟨3, 0, ⟨#[]⟩⟩, ⟨#[111, 107]⟩, []⟩, .slice none 0 0), (⟨⟨0, 0, ⟨#[]⟩⟩, ⟨#[102, 114, 105, 101, 110, 100]⟩, [⟨3, 0, ⟨#[]⟩⟩]⟩, .slice (some ⟨w.heap.size + 1 + 1 + 1, 0, none⟩) 1 1)], .slice (some ⟨w.heap.size + 1 + 1 + 1 + 1, 0, none⟩) 2 2, [], .slice none 0 0⟩] W (QPost W ⟨(⟨⟨0, 0, ⟨#[]⟩⟩, ⟨#[103, 111, 111, 100]⟩, [⟨3, 0, ⟨#[]⟩⟩]⟩, .slice (some ⟨w.heap.size + 1 + 1, 0, none⟩) 1 1), [(⟨⟨3, 0, ⟨#[]⟩⟩, ⟨#[111, 107]⟩, []⟩, .slice none 0 0), (⟨⟨0, 0, ⟨#[]⟩⟩, ⟨#[102, 114, 105, 101, 110, 100]⟩, [⟨3, 0, ⟨#[]⟩⟩]⟩, .slice (some ⟨w.heap.size + 1 + 1 + 1, 0, none⟩) 1 1)], .slice (some ⟨w.heap.size + 1 + 1 + 1 + 1, 0, none⟩) 2 2, [], .slice none 0 0⟩ ⟨#[97, 108, 105, 99, 101]⟩)) :=
    quote_ok ⟨(⟨⟨0, 0, ⟨#[]⟩⟩, ⟨#[103, 111, 111, 100]⟩, [⟨3, 0, ⟨#[]⟩⟩]⟩, .slice (some ⟨w.heap.size + 1 + 1, 0, none⟩) 1 1), [(⟨⟨3, 0, ⟨#[]⟩⟩, ⟨#[111, 107]⟩, []⟩, .slice none 0 0), (⟨⟨0, 0, ⟨#[]⟩⟩, ⟨#[102, 114, 105, 101, 110, 100]⟩, [⟨3, 0, ⟨#[]⟩⟩]⟩, .slice (some ⟨w.heap.size + 1 + 1 + 1, 0, none⟩) 1 1)], .slice (some ⟨w.heap.size + 1 + 1 + 1 + 1, 0, none⟩) 2 2, [], .slice none 0 0⟩ ⟨#[97, 108, 105, 99, 101]⟩ W HFS.out.ok (first_wf w) first_prin (first_chk w) rfl (by simp) (by simp) (by simp) (by intro x hx; simp at hx; rcases hx with rfl | rfl <;> simp)
  obtain ⟨c0, c1, c2, c3, c4, c5, c6⟩ := cseven HFS.out.c
  go_upto_region 5 with (go_at_call 43; refine HQT.out.mono ?_; clear HQT; rintro e w1 ⟨M1, M2, M3, lb, rfl, hrp, hb⟩; have HR : Hid (RP W.heap.size w1 (Cm.quo ⟨(⟨⟨0, 0, ⟨#[]⟩⟩, ⟨#[103, 111, 111, 100]⟩, [⟨3, 0, ⟨#[]⟩⟩]⟩, .slice (some ⟨w.heap.size + 1 + 1, 0, none⟩) 1 1), [(⟨⟨3, 0, ⟨#[]⟩⟩, ⟨#[111, 107]⟩, []⟩, .slice none 0 0), (⟨⟨0, 0, ⟨#[]⟩⟩, ⟨#[102, 114, 105, 101, 110, 100]⟩, [⟨3, 0, ⟨#[]⟩⟩]⟩, .slice (some ⟨w.heap.size + 1 + 1 + 1, 0, none⟩) 1 1)], .slice (some ⟨w.heap.size + 1 + 1 + 1 + 1, 0, none⟩) 2 2, [], .slice none 0 0⟩ ⟨#[97, 108, 105, 99, 101]⟩) M1 M2 M3 lb) := hrp; have HF1 : Hid (FS w w1) := HFS.out.later hb; clear c0 c1 c2 c3 c4 c5 c6 HFS hrp hb; simp only [Cm.cp, Cm.quo])
  have hB := HR.out.a.lt
  have hlb := HR.out.f
  rw [first_quo] at hlb
  obtain ⟨v0, v1, rfl⟩ := fsts_two hlb
  have hg0 := HR.out.a.get (i := 0) rfl
  have hg1 := HR.out.a.get (i := 1) rfl
  have hbY := below1 w1 (.cells #[.int .i64 2, .int .i64 0, .string ⟨#[97, 108, 105, 99, 101]⟩, .string ⟨#[103, 111, 111, 100]⟩, .slice (some ⟨M1, 0, none⟩) 1 1, .slice (some ⟨M2, 0, none⟩) 2 2, .slice (some ⟨M3, 0, none⟩) 0 0] 41)
  have hq := CBlk.new w1 #[.int .i64 2, .int .i64 0, .string ⟨#[97, 108, 105, 99, 101]⟩, .string ⟨#[103, 111, 111, 100]⟩, .slice (some ⟨M1, 0, none⟩) 1 1, .slice (some ⟨M2, 0, none⟩) 2 2, .slice (some ⟨M3, 0, none⟩) 0 0] 41
  have HF2 : Hid (FS w (w1.alloc (.cells #[.int .i64 2, .int .i64 0, .string ⟨#[97, 108, 105, 99, 101]⟩, .string ⟨#[103, 111, 111, 100]⟩, .slice (some ⟨M1, 0, none⟩) 1 1, .slice (some ⟨M2, 0, none⟩) 2 2, .slice (some ⟨M3, 0, none⟩) 0 0] 41))) := HF1.out.later hbY
  have hM2 : M2 < (w1.alloc (.cells #[.int .i64 2, .int .i64 0, .string ⟨#[97, 108, 105, 99, 101]⟩, .string ⟨#[103, 111, 111, 100]⟩, .slice (some ⟨M1, 0, none⟩) 1 1, .slice (some ⟨M2, 0, none⟩) 2 2, .slice (some ⟨M3, 0, none⟩) 0 0] 41)).heap.size := Nat.lt_of_lt_of_le hB hbY.size
  have HA : Hid (((w1.alloc (.cells #[.int .i64 2, .int .i64 0, .string ⟨#[97, 108, 105, 99, 101]⟩, .string ⟨#[103, 111, 111, 100]⟩, .slice (some ⟨M1, 0, none⟩) 1 1, .slice (some ⟨M2, 0, none⟩) 2 2, .slice (some ⟨M3, 0, none⟩) 0 0] 41)).cell? ⟨M2, 0, none⟩ = some (.int .i64 3) ∧ (w1.alloc (.cells #[.int .i64 2, .int .i64 0, .string ⟨#[97, 108, 105, 99, 101]⟩, .string ⟨#[103, 111, 111, 100]⟩, .slice (some ⟨M1, 0, none⟩) 1 1, .slice (some ⟨M2, 0, none⟩) 2 2, .slice (some ⟨M3, 0, none⟩) 0 0] 41)).cell? ⟨M2, 1, none⟩ = some (.int .i64 0) ∧ (w1.alloc (.cells #[.int .i64 2, .int .i64 0, .string ⟨#[97, 108, 105, 99, 101]⟩, .string ⟨#[103, 111, 111, 100]⟩, .slice (some ⟨M1, 0, none⟩) 1 1, .slice (some ⟨M2, 0, none⟩) 2 2, .slice (some ⟨M3, 0, none⟩) 0 0] 41)).cell? ⟨M2, 2, none⟩ = some (.string ⟨#[]⟩)) ∧ M2 < (w1.alloc (.cells #[.int .i64 2, .int .i64 0, .string ⟨#[97, 108, 105, 99, 101]⟩, .string ⟨#[103, 111, 111, 100]⟩, .slice (some ⟨M1, 0, none⟩) 1 1, .slice (some ⟨M2, 0, none⟩) 2 2, .slice (some ⟨M3, 0, none⟩) 0 0] 41)).heap.size) := ⟨⟨cell_step hbY hB hg0.1, cell_step hbY hB hg0.2.1, cell_step hbY hB hg0.2.2.1⟩, hM2⟩
  have HD : Hid (((w1.alloc (.cells #[.int .i64 2, .int .i64 0, .string ⟨#[97, 108, 105, 99, 101]⟩, .string ⟨#[103, 111, 111, 100]⟩, .slice (some ⟨M1, 0, none⟩) 1 1, .slice (some ⟨M2, 0, none⟩) 2 2, .slice (some ⟨M3, 0, none⟩) 0 0] 41)).cell? ⟨M2, 5, none⟩ = some (.int .i64 2) ∧ (w1.alloc (.cells #[.int .i64 2, .int .i64 0, .string ⟨#[97, 108, 105, 99, 101]⟩, .string ⟨#[103, 111, 111, 100]⟩, .slice (some ⟨M1, 0, none⟩) 1 1, .slice (some ⟨M2, 0, none⟩) 2 2, .slice (some ⟨M3, 0, none⟩) 0 0] 41)).cell? ⟨M2, 6, none⟩ = some (.int .i64 0) ∧ (w1.alloc (.cells #[.int .i64 2, .int .i64 0, .string ⟨#[97, 108, 105, 99, 101]⟩, .string ⟨#[103, 111, 111, 100]⟩, .slice (some ⟨M1, 0, none⟩) 1 1, .slice (some ⟨M2, 0, none⟩) 2 2, .slice (some ⟨M3, 0, none⟩) 0 0] 41)).cell? ⟨M2, 7, none⟩ = some (.string ⟨#[97, 108, 105, 99, 101]⟩)) ∧ M2 < (w1.alloc (.cells #[.int .i64 2, .int .i64 0, .string ⟨#[97, 108, 105, 99, 101]⟩, .string ⟨#[103, 111, 111, 100]⟩, .slice (some ⟨M1, 0, none⟩) 1 1, .slice (some ⟨M2, 0, none⟩) 2 2, .slice (some ⟨M3, 0, none⟩) 0 0] 41)).heap.size) := ⟨⟨cell_step hbY hB hg1.1, cell_step hbY hB hg1.2.1, cell_step hbY hB hg1.2.2.1⟩, hM2⟩
  obtain ⟨Bq, hBq⟩ : ∃ B, w1.heap.size = B := ⟨_, rfl⟩
  clear hg0 hg1 hM2 hB hlb HR hbY HF1
  revert hq HF2 HA HD
  rw [hBq]
  generalize w1.alloc (.cells #[.int .i64 2, .int .i64 0, .string ⟨#[97, 108, 105, 99, 101]⟩, .string ⟨#[103, 111, 111, 100]⟩, .slice (some ⟨M1, 0, none⟩) 1 1, .slice (some ⟨M2, 0, none⟩) 2 2, .slice (some ⟨M3, 0, none⟩) 0 0] 41) = Y
  intro hq HF2 HA HD
  clear hBq
  have HQ : Hid (_ ∧ Bq < Y.heap.size) := ⟨cseven hq, hq.lt⟩
  have HC : Hid (_ ∧ w.heap.size + 1 + 1 + 1 + 1 + 1 < Y.heap.size) := ⟨cseven HF2.out.c, HF2.out.c.lt⟩
  have HX : Hid (_ ∧ w.heap.size < Y.heap.size) := ⟨cthree HF2.out.x, HF2.out.x.lt⟩
  have HB : Hid (_ ∧ w.heap.size + 1 < Y.heap.size) := ⟨cthree HF2.out.b, HF2.out.b.lt⟩
  have HBW : Hid (Below w.heap.size w Y) := HF2.out.bw
  have HV : Hid (∀ X : World, Below Y.heap.size Y X → Calls Tryz.prog 44 #[Cm.v ⟨(⟨⟨0, 0, ⟨#[]⟩⟩, ⟨#[103, 111, 111, 100]⟩, [⟨3, 0, ⟨#[]⟩⟩]⟩, .slice (some ⟨w.heap.size + 1 + 1, 0, none⟩) 1 1), [(⟨⟨3, 0, ⟨#[]⟩⟩, ⟨#[111, 107]⟩, []⟩, .slice none 0 0), (⟨⟨0, 0, ⟨#[]⟩⟩, ⟨#[102, 114, 105, 101, 110, 100]⟩, [⟨3, 0, ⟨#[]⟩⟩]⟩, .slice (some ⟨w.heap.size + 1 + 1 + 1, 0, none⟩) 1 1)], .slice (some ⟨w.heap.size + 1 + 1 + 1 + 1, 0, none⟩) 2 2, [], .slice none 0 0⟩] X fun e w' => e = .returned (.int .i64 1) ∧ Below X.heap.size X w') := fun X hX => by
    have := vars_any ⟨(⟨⟨0, 0, ⟨#[]⟩⟩, ⟨#[103, 111, 111, 100]⟩, [⟨3, 0, ⟨#[]⟩⟩]⟩, .slice (some ⟨w.heap.size + 1 + 1, 0, none⟩) 1 1), [(⟨⟨3, 0, ⟨#[]⟩⟩, ⟨#[111, 107]⟩, []⟩, .slice none 0 0), (⟨⟨0, 0, ⟨#[]⟩⟩, ⟨#[102, 114, 105, 101, 110, 100]⟩, [⟨3, 0, ⟨#[]⟩⟩]⟩, .slice (some ⟨w.heap.size + 1 + 1 + 1, 0, none⟩) 1 1)], .slice (some ⟨w.heap.size + 1 + 1 + 1 + 1, 0, none⟩) 2 2, [], .slice none 0 0⟩ X (HF2.out.ok.later hX) (first_wf w).vars.1 (first_wf w).vars.2
    rw [first_vars] at this
    exact this
  clear hq HF2
  refine wp_region_held_drew (S := fun w' => Below Y.heap.size Y w') (by kernel_rfl) (Below.refl _ _).drew (fun hH => ?_)
  revert hH
  generalize Y.drew = V
  intro hH
  refine wpAnyH_take (i := 0) (oi := ⟨_, _, _, _, _, _⟩) (v := .int .i64 0) rfl (by kernel_rfl) (by kernel_rfl) (by kernel_rfl) (fun _ _ _ h => h) (Or.inl ⟨by rfl, fun w' _ => by go_simp⟩) hH ?_
  simp only [Act.put, List.setIfInBounds_toArray, List.set_cons_zero, List.set_cons_succ]
  refine wpAnyH_take (i := 1) (oi := ⟨_, _, _, _, _, _⟩) (v := .bool true) rfl (by kernel_rfl) (by kernel_rfl) (by kernel_rfl) (fun _ _ _ h => h) (Or.inl ⟨by rfl, fun w' _ => by go_simp⟩) hH ?_
  simp only [Act.put, List.setIfInBounds_toArray, List.set_cons_zero, List.set_cons_succ]
  refine wpAnyH_take (i := 2) (oi := ⟨_, _, _, _, _, _⟩) (v := .bool true) rfl (by kernel_rfl) (by kernel_rfl) (by kernel_rfl) (fun _ _ _ h => h) (Or.inl ⟨by rfl, fun w' _ => by go_simp⟩) hH ?_
  simp only [Act.put, List.setIfInBounds_toArray, List.set_cons_zero, List.set_cons_succ]
  refine wpAnyH_take (i := 3) (oi := ⟨_, _, _, _, _, _⟩) (v := .agg #[.int .i64 0, .int .i64 0, .string ⟨#[]⟩, .string ⟨#[103, 111, 111, 100]⟩, .slice (some ⟨w.heap.size + 1 + 1, 0, none⟩) 1 1, .slice (some ⟨w.heap.size + 1 + 1 + 1 + 1, 0, none⟩) 2 2, .slice none 0 0]) rfl (by kernel_rfl) (by kernel_rfl) (by kernel_rfl) (fun _ _ _ h => h) (Or.inl ⟨by rfl, fun w' h => by obtain ⟨p0, p1, p2, p3, p4, p5, p6⟩ := HC.out.1; have z := HC.out.2; have a0 := cell_step h z p0; have a1 := cell_step h z p1; have a2 := cell_step h z p2; have a3 := cell_step h z p3; have a4 := cell_step h z p4; have a5 := cell_step h z p5; have a6 := cell_step h z p6; clear p0 p1 p2 p3 p4 p5 p6; go_simp⟩) hH ?_
  simp only [Act.put, List.setIfInBounds_toArray, List.set_cons_zero, List.set_cons_succ]
  refine wpAnyH_ready (rs := [4]) (by kernel_rfl) (by simp) ?_
  refine (AllReadyH.cons (o := ⟨_, _, _, _, _, _⟩) rfl (fun K hK => ?_) AllReadyH.nil)
  go_simp
  refine (HV.out _ hH).mono ?_
  rintro e V1 ⟨rfl, hb⟩
  refine hK.out _ _ (below_step hH hb) (fun hH => ?_)
  clear hK K
  refine wpAnyH_take (i := 5) (oi := ⟨_, _, _, _, _, _⟩) (v := .bool true) rfl (by kernel_rfl) (by kernel_rfl) (by kernel_rfl) (fun _ _ _ h => h) (Or.inl ⟨by rfl, fun w' _ => by go_simp⟩) hH ?_
  simp only [Act.put, List.setIfInBounds_toArray, List.set_cons_zero, List.set_cons_succ]
  refine wpAnyH_take (i := 6) (oi := ⟨_, _, _, _, _, _⟩) (v := .bool true) rfl (by kernel_rfl) (by kernel_rfl) (by kernel_rfl) (fun _ _ _ h => h) (Or.inl ⟨by rfl, fun w' _ => by go_simp⟩) hH ?_
  simp only [Act.put, List.setIfInBounds_toArray, List.set_cons_zero, List.set_cons_succ]
  refine wpAnyH_take (i := 7) (oi := ⟨_, _, _, _, _, _⟩) (v := .bool true) rfl (by kernel_rfl) (by kernel_rfl) (by kernel_rfl) (fun _ _ _ h => h) (Or.inl ⟨by rfl, fun w' _ => by go_simp⟩) hH ?_
  simp only [Act.put, List.setIfInBounds_toArray, List.set_cons_zero, List.set_cons_succ]
  refine wpAnyH_take (i := 8) (oi := ⟨_, _, _, _, _, _⟩) (v := .pointer (some ⟨Bq, 0, none⟩)) rfl (by kernel_rfl) (by kernel_rfl) (by kernel_rfl) (fun _ _ _ h => h) (Or.inl ⟨by rfl, fun w' _ => by go_simp⟩) hH ?_
  simp only [Act.put, List.setIfInBounds_toArray, List.set_cons_zero, List.set_cons_succ]
  refine wpAnyH_take (i := 9) (oi := ⟨_, _, _, _, _, _⟩) (v := .pointer (some ⟨Bq, 0, none⟩)) rfl (by kernel_rfl) (by kernel_rfl) (by kernel_rfl) (fun _ _ _ h => h) (Or.inl ⟨by rfl, fun w' _ => by go_simp⟩) hH ?_
  simp only [Act.put, List.setIfInBounds_toArray, List.set_cons_zero, List.set_cons_succ]
  refine wpAnyH_take (i := 10) (oi := ⟨_, _, _, _, _, _⟩) (v := Tm.v ⟨2, 0, ⟨#[97, 108, 105, 99, 101]⟩⟩) rfl (by kernel_rfl) (by kernel_rfl) (by kernel_rfl) (fun _ _ _ h => h) (Or.inl ⟨by rfl, fun w' h => by obtain ⟨p0, p1, p2, p3, p4, p5, p6⟩ := HQ.out.1; have z := HQ.out.2; have a0 := cell_step h z p0; have a1 := cell_step h z p1; have a2 := cell_step h z p2; have a3 := cell_step h z p3; have a4 := cell_step h z p4; have a5 := cell_step h z p5; have a6 := cell_step h z p6; clear p0 p1 p2 p3 p4 p5 p6; go_simp⟩) hH ?_
  simp only [Act.put, List.setIfInBounds_toArray, List.set_cons_zero, List.set_cons_succ]
  refine wpAnyH_take (i := 11) (oi := ⟨_, _, _, _, _, _⟩) (v := Tm.v ⟨2, 0, ⟨#[97, 108, 105, 99, 101]⟩⟩) rfl (by kernel_rfl) (by kernel_rfl) (by kernel_rfl) (fun _ _ _ h => h) (Or.inl ⟨by rfl, fun w' h => by obtain ⟨p0, p1, p2⟩ := HB.out.1; have z := HB.out.2; have a0 := cell_step h z p0; have a1 := cell_step h z p1; have a2 := cell_step h z p2; clear p0 p1 p2; go_simp⟩) hH ?_
  simp only [Act.put, List.setIfInBounds_toArray, List.set_cons_zero, List.set_cons_succ]
  refine wpAnyH_take (i := 12) (oi := ⟨_, _, _, _, _, _⟩) (v := .bool true) rfl (by kernel_rfl) (by kernel_rfl) (by kernel_rfl) (fun _ _ _ h => h) (Or.inl ⟨by rfl, fun w' _ => by go_simp⟩) hH ?_
  simp only [Act.put, List.setIfInBounds_toArray, List.set_cons_zero, List.set_cons_succ]
  refine wpAnyH_take (i := 13) (oi := ⟨_, _, _, _, _, _⟩) (v := .bool true) rfl (by kernel_rfl) (by kernel_rfl) (by kernel_rfl) (fun _ _ _ h => h) (Or.inl ⟨by rfl, fun w' _ => by go_simp⟩) hH ?_
  simp only [Act.put, List.setIfInBounds_toArray, List.set_cons_zero, List.set_cons_succ]
  refine wpAnyH_take (i := 14) (oi := ⟨_, _, _, _, _, _⟩) (v := .bool true) rfl (by kernel_rfl) (by kernel_rfl) (by kernel_rfl) (fun _ _ _ h => h) (Or.inl ⟨by rfl, fun w' _ => by go_simp⟩) hH ?_
  simp only [Act.put, List.setIfInBounds_toArray, List.set_cons_zero, List.set_cons_succ]
  refine wpAnyH_take (i := 15) (oi := ⟨_, _, _, _, _, _⟩) (v := .pointer (some ⟨Bq, 5, none⟩)) rfl (by kernel_rfl) (by kernel_rfl) (by kernel_rfl) (fun _ _ _ h => h) (Or.inl ⟨by rfl, fun w' _ => by go_simp⟩) hH ?_
  simp only [Act.put, List.setIfInBounds_toArray, List.set_cons_zero, List.set_cons_succ]
  refine wpAnyH_take (i := 16) (oi := ⟨_, _, _, _, _, _⟩) (v := .slice (some ⟨M2, 0, none⟩) 2 2) rfl (by kernel_rfl) (by kernel_rfl) (by kernel_rfl) (fun _ _ _ h => h) (Or.inl ⟨by rfl, fun w' h => by obtain ⟨p0, p1, p2, p3, p4, p5, p6⟩ := HQ.out.1; have z := HQ.out.2; have a0 := cell_step h z p0; have a1 := cell_step h z p1; have a2 := cell_step h z p2; have a3 := cell_step h z p3; have a4 := cell_step h z p4; have a5 := cell_step h z p5; have a6 := cell_step h z p6; clear p0 p1 p2 p3 p4 p5 p6; go_simp⟩) hH ?_
  simp only [Act.put, List.setIfInBounds_toArray, List.set_cons_zero, List.set_cons_succ]
  refine wpAnyH_take (i := 17) (oi := ⟨_, _, _, _, _, _⟩) (v := .int .i64 2) rfl (by kernel_rfl) (by kernel_rfl) (by kernel_rfl) (fun _ _ _ h => h) (Or.inl ⟨by rfl, fun w' _ => by go_simp⟩) hH ?_
  simp only [Act.put, List.setIfInBounds_toArray, List.set_cons_zero, List.set_cons_succ]
  refine wpAnyH_take (i := 18) (oi := ⟨_, _, _, _, _, _⟩) (v := .bool true) rfl (by kernel_rfl) (by kernel_rfl) (by kernel_rfl) (fun _ _ _ h => h) (Or.inl ⟨by rfl, fun w' _ => by go_simp⟩) hH ?_
  simp only [Act.put, List.setIfInBounds_toArray, List.set_cons_zero, List.set_cons_succ]
  refine wpAnyH_take (i := 19) (oi := ⟨_, _, _, _, _, _⟩) (v := .bool true) rfl (by kernel_rfl) (by kernel_rfl) (by kernel_rfl) (fun _ _ _ h => h) (Or.inl ⟨by rfl, fun w' _ => by go_simp⟩) hH ?_
  simp only [Act.put, List.setIfInBounds_toArray, List.set_cons_zero, List.set_cons_succ]
  refine wpAnyH_take (i := 20) (oi := ⟨_, _, _, _, _, _⟩) (v := .bool true) rfl (by kernel_rfl) (by kernel_rfl) (by kernel_rfl) (fun _ _ _ h => h) (Or.inl ⟨by rfl, fun w' _ => by go_simp⟩) hH ?_
  simp only [Act.put, List.setIfInBounds_toArray, List.set_cons_zero, List.set_cons_succ]
  refine wpAnyH_take (i := 21) (oi := ⟨_, _, _, _, _, _⟩) (v := .pointer (some ⟨Bq, 5, none⟩)) rfl (by kernel_rfl) (by kernel_rfl) (by kernel_rfl) (fun _ _ _ h => h) (Or.inl ⟨by rfl, fun w' _ => by go_simp⟩) hH ?_
  simp only [Act.put, List.setIfInBounds_toArray, List.set_cons_zero, List.set_cons_succ]
  refine wpAnyH_take (i := 22) (oi := ⟨_, _, _, _, _, _⟩) (v := .slice (some ⟨M2, 0, none⟩) 2 2) rfl (by kernel_rfl) (by kernel_rfl) (by kernel_rfl) (fun _ _ _ h => h) (Or.inl ⟨by rfl, fun w' h => by obtain ⟨p0, p1, p2, p3, p4, p5, p6⟩ := HQ.out.1; have z := HQ.out.2; have a0 := cell_step h z p0; have a1 := cell_step h z p1; have a2 := cell_step h z p2; have a3 := cell_step h z p3; have a4 := cell_step h z p4; have a5 := cell_step h z p5; have a6 := cell_step h z p6; clear p0 p1 p2 p3 p4 p5 p6; go_simp⟩) hH ?_
  simp only [Act.put, List.setIfInBounds_toArray, List.set_cons_zero, List.set_cons_succ]
  refine wpAnyH_take (i := 23) (oi := ⟨_, _, _, _, _, _⟩) (v := .pointer (some ⟨M2, 0, none⟩)) rfl (by kernel_rfl) (by kernel_rfl) (by kernel_rfl) (fun _ _ _ h => h) (Or.inl ⟨by rfl, fun w' _ => by go_simp⟩) hH ?_
  simp only [Act.put, List.setIfInBounds_toArray, List.set_cons_zero, List.set_cons_succ]
  refine wpAnyH_take (i := 24) (oi := ⟨_, _, _, _, _, _⟩) (v := .pointer (some ⟨M2, 0, none⟩)) rfl (by kernel_rfl) (by kernel_rfl) (by kernel_rfl) (fun _ _ _ h => h) (Or.inl ⟨by rfl, fun w' _ => by go_simp⟩) hH ?_
  simp only [Act.put, List.setIfInBounds_toArray, List.set_cons_zero, List.set_cons_succ]
  refine wpAnyH_take (i := 25) (oi := ⟨_, _, _, _, _, _⟩) (v := Tm.v ⟨3, 0, ⟨#[]⟩⟩) rfl (by kernel_rfl) (by kernel_rfl) (by kernel_rfl) (fun _ _ _ h => h) (Or.inl ⟨by rfl, fun w' h => by obtain ⟨p0, p1, p2⟩ := HA.out.1; have z := HA.out.2; have a0 := cell_step h z p0; have a1 := cell_step h z p1; have a2 := cell_step h z p2; clear p0 p1 p2; go_simp⟩) hH ?_
  simp only [Act.put, List.setIfInBounds_toArray, List.set_cons_zero, List.set_cons_succ]
  refine wpAnyH_take (i := 26) (oi := ⟨_, _, _, _, _, _⟩) (v := Tm.v ⟨3, 0, ⟨#[]⟩⟩) rfl (by kernel_rfl) (by kernel_rfl) (by kernel_rfl) (fun _ _ _ h => h) (Or.inl ⟨by rfl, fun w' h => by obtain ⟨p0, p1, p2⟩ := HX.out.1; have z := HX.out.2; have a0 := cell_step h z p0; have a1 := cell_step h z p1; have a2 := cell_step h z p2; clear p0 p1 p2; go_simp⟩) hH ?_
  simp only [Act.put, List.setIfInBounds_toArray, List.set_cons_zero, List.set_cons_succ]
  refine wpAnyH_take (i := 27) (oi := ⟨_, _, _, _, _, _⟩) (v := .bool true) rfl (by kernel_rfl) (by kernel_rfl) (by kernel_rfl) (fun _ _ _ h => h) (Or.inl ⟨by rfl, fun w' _ => by go_simp⟩) hH ?_
  simp only [Act.put, List.setIfInBounds_toArray, List.set_cons_zero, List.set_cons_succ]
  refine wpAnyH_take (i := 28) (oi := ⟨_, _, _, _, _, _⟩) (v := .bool true) rfl (by kernel_rfl) (by kernel_rfl) (by kernel_rfl) (fun _ _ _ h => h) (Or.inl ⟨by rfl, fun w' _ => by go_simp⟩) hH ?_
  simp only [Act.put, List.setIfInBounds_toArray, List.set_cons_zero, List.set_cons_succ]
  refine wpAnyH_take (i := 29) (oi := ⟨_, _, _, _, _, _⟩) (v := .bool true) rfl (by kernel_rfl) (by kernel_rfl) (by kernel_rfl) (fun _ _ _ h => h) (Or.inl ⟨by rfl, fun w' _ => by go_simp⟩) hH ?_
  simp only [Act.put, List.setIfInBounds_toArray, List.set_cons_zero, List.set_cons_succ]
  refine wpAnyH_take (i := 30) (oi := ⟨_, _, _, _, _, _⟩) (v := .pointer (some ⟨Bq, 5, none⟩)) rfl (by kernel_rfl) (by kernel_rfl) (by kernel_rfl) (fun _ _ _ h => h) (Or.inl ⟨by rfl, fun w' _ => by go_simp⟩) hH ?_
  simp only [Act.put, List.setIfInBounds_toArray, List.set_cons_zero, List.set_cons_succ]
  refine wpAnyH_take (i := 31) (oi := ⟨_, _, _, _, _, _⟩) (v := .slice (some ⟨M2, 0, none⟩) 2 2) rfl (by kernel_rfl) (by kernel_rfl) (by kernel_rfl) (fun _ _ _ h => h) (Or.inl ⟨by rfl, fun w' h => by obtain ⟨p0, p1, p2, p3, p4, p5, p6⟩ := HQ.out.1; have z := HQ.out.2; have a0 := cell_step h z p0; have a1 := cell_step h z p1; have a2 := cell_step h z p2; have a3 := cell_step h z p3; have a4 := cell_step h z p4; have a5 := cell_step h z p5; have a6 := cell_step h z p6; clear p0 p1 p2 p3 p4 p5 p6; go_simp⟩) hH ?_
  simp only [Act.put, List.setIfInBounds_toArray, List.set_cons_zero, List.set_cons_succ]
  refine wpAnyH_take (i := 32) (oi := ⟨_, _, _, _, _, _⟩) (v := .pointer (some ⟨M2, 5, none⟩)) rfl (by kernel_rfl) (by kernel_rfl) (by kernel_rfl) (fun _ _ _ h => h) (Or.inl ⟨by rfl, fun w' _ => by go_simp⟩) hH ?_
  simp only [Act.put, List.setIfInBounds_toArray, List.set_cons_zero, List.set_cons_succ]
  refine wpAnyH_take (i := 33) (oi := ⟨_, _, _, _, _, _⟩) (v := .pointer (some ⟨M2, 5, none⟩)) rfl (by kernel_rfl) (by kernel_rfl) (by kernel_rfl) (fun _ _ _ h => h) (Or.inl ⟨by rfl, fun w' _ => by go_simp⟩) hH ?_
  simp only [Act.put, List.setIfInBounds_toArray, List.set_cons_zero, List.set_cons_succ]
  refine wpAnyH_take (i := 34) (oi := ⟨_, _, _, _, _, _⟩) (v := Tm.v ⟨2, 0, ⟨#[97, 108, 105, 99, 101]⟩⟩) rfl (by kernel_rfl) (by kernel_rfl) (by kernel_rfl) (fun _ _ _ h => h) (Or.inl ⟨by rfl, fun w' h => by obtain ⟨p0, p1, p2⟩ := HD.out.1; have z := HD.out.2; have a0 := cell_step h z p0; have a1 := cell_step h z p1; have a2 := cell_step h z p2; clear p0 p1 p2; go_simp⟩) hH ?_
  simp only [Act.put, List.setIfInBounds_toArray, List.set_cons_zero, List.set_cons_succ]
  refine wpAnyH_take (i := 35) (oi := ⟨_, _, _, _, _, _⟩) (v := Tm.v ⟨2, 0, ⟨#[97, 108, 105, 99, 101]⟩⟩) rfl (by kernel_rfl) (by kernel_rfl) (by kernel_rfl) (fun _ _ _ h => h) (Or.inl ⟨by rfl, fun w' h => by obtain ⟨p0, p1, p2⟩ := HB.out.1; have z := HB.out.2; have a0 := cell_step h z p0; have a1 := cell_step h z p1; have a2 := cell_step h z p2; clear p0 p1 p2; go_simp⟩) hH ?_
  simp only [Act.put, List.setIfInBounds_toArray, List.set_cons_zero, List.set_cons_succ]
  refine wpAnyH_take (i := 36) (oi := ⟨_, _, _, _, _, _⟩) (v := .bool true) rfl (by kernel_rfl) (by kernel_rfl) (by kernel_rfl) (fun _ _ _ h => h) (Or.inl ⟨by rfl, fun w' _ => by go_simp⟩) hH ?_
  simp only [Act.put, List.setIfInBounds_toArray, List.set_cons_zero, List.set_cons_succ]
  refine wpAnyH_take (i := 37) (oi := ⟨_, _, _, _, _, _⟩) (v := .bool true) rfl (by kernel_rfl) (by kernel_rfl) (by kernel_rfl) (fun _ _ _ h => h) (Or.inl ⟨by rfl, fun w' _ => by go_simp⟩) hH ?_
  simp only [Act.put, List.setIfInBounds_toArray, List.set_cons_zero, List.set_cons_succ]
  refine wpAnyH_take (i := 38) (oi := ⟨_, _, _, _, _, _⟩) (v := .bool true) rfl (by kernel_rfl) (by kernel_rfl) (by kernel_rfl) (fun _ _ _ h => h) (Or.inl ⟨by rfl, fun w' _ => by go_simp⟩) hH ?_
  simp only [Act.put, List.setIfInBounds_toArray, List.set_cons_zero]
  refine wpAnyH_done (by kernel_rfl) ?_ _
  go_wp2
  go_ret
  exact ⟨rfl, below_step HBW.out hH⟩
end Go.Proofs.YtdfgijdededolabGreatDoor
