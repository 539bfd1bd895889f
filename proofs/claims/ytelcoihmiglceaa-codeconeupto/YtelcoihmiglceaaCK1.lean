import Derived.Test.YtelcoihmiglceaaCL27
import Derived.Test.YtelcoihmiglceaaCL7
import Derived.Test.YtelcoihmiglceaaMD13
import Derived.Test.YtelcoihmiglceaaMP1
import Derived.Deep.RegionHeld3
import Derived.Deep.CutRange
import Derived.Test.YtelcoihmiglceaaRC1
import Derived.Test.YtelcoihmiglceaaMD7
import Derived.Test.YtelcoihmiglceaaCL24
import Derived.Test.YtelcoihmiglceaaW2
import Derived.BigQuiet
import Derived.Test.YtelcoihmiglceaaNR10
/-
  first: a call whose answer the document fixes. (Written by CL21.py.)
-/
namespace Go.Proofs.Ytelcoihmiglceaa
open Go.RowKit
attribute [local go_sem ↓] Go.wp_at_zero Go.wp_at_succ

theorem ts_one {W : World} {b : Nat} {k n : Int} {s : ByteArray} (h : CBlk W b #[.int .i64 k, .int .i64 n, .string s] 31) : Ts W (.slice (some ⟨b, 0, none⟩) 1 1) [⟨k, n, s⟩] := by
  refine ⟨some ⟨b, 0, none⟩, 1, rfl, by simp, Or.inr ⟨b, 0, rfl, h.lt, fun i t ht => ?_⟩⟩
  obtain ⟨h1, h2⟩ := List.getElem?_eq_some_iff.1 ht
  obtain rfl : i = 0 := by simpa using h1
  obtain rfl : (⟨k, n, s⟩ : Tm) = t := h2
  exact ⟨cell_of_row _ _ _ _ _ _ h, cell_of_row _ _ _ _ _ _ h, cell_of_row _ _ _ _ _ _ h⟩
theorem ts_none (W : World) : Ts W (.slice none 0 0) [] := ⟨none, 0, rfl, by simp, Or.inl rfl⟩
theorem as_two {W : World} {b : Nat} {k n k' n' : Int} {s m s' m' : ByteArray} {l l' : List Tm} {v v' : Value} (h : CBlk W b #[.int .i64 k, .int .i64 n, .string s, .string m, v, .int .i64 k', .int .i64 n', .string s', .string m', v'] 34) (h1 : Ts W v l) (h2 : Ts W v' l') :
    As W (.slice (some ⟨b, 0, none⟩) 2 2) [(⟨⟨k, n, s⟩, m, l⟩, v), (⟨⟨k', n', s'⟩, m', l'⟩, v')] := by
  refine ⟨some ⟨b, 0, none⟩, 2, rfl, by simp, Or.inr ⟨b, 0, rfl, h.lt, fun i x hx => ?_⟩, fun x hx => ?_⟩
  · obtain ⟨e1, e2⟩ := List.getElem?_eq_some_iff.1 hx
    have hi : i < 2 := by simpa using e1
    rcases (by omega : i = 0 ∨ i = 1) with rfl | rfl
    · obtain rfl : ((⟨⟨k, n, s⟩, m, l⟩, v) : At × Value) = x := e2
      exact ⟨cell_of_row _ _ _ _ _ _ h, cell_of_row _ _ _ _ _ _ h, cell_of_row _ _ _ _ _ _ h, cell_of_row _ _ _ _ _ _ h, cell_of_row _ _ _ _ _ _ h⟩
    · obtain rfl : ((⟨⟨k', n', s'⟩, m', l'⟩, v') : At × Value) = x := e2
      exact ⟨cell_of_row _ _ _ _ _ _ h, cell_of_row _ _ _ _ _ _ h, cell_of_row _ _ _ _ _ _ h, cell_of_row _ _ _ _ _ _ h, cell_of_row _ _ _ _ _ _ h⟩
  · simp only [List.mem_cons, List.not_mem_nil, or_false] at hx
    rcases hx with rfl | rfl
    · exact h1
    · exact h2
/-- The memory that first lays. -/
structure FS (w X : World) : Prop where
  x : CBlk X (w.heap.size) #[.int .i64 3, .int .i64 0, .string ⟨#[]⟩] 31
  b : CBlk X (w.heap.size + 1) #[.int .i64 2, .int .i64 0, .string ⟨#[97, 108, 105, 99, 101]⟩] 31
  a1 : CBlk X (w.heap.size + 1 + 1) #[.int .i64 3, .int .i64 0, .string ⟨#[]⟩] 31
  a2 : CBlk X (w.heap.size + 1 + 1 + 1) #[.int .i64 3, .int .i64 0, .string ⟨#[]⟩] 31
  at_ : CBlk X (w.heap.size + 1 + 1 + 1 + 1) #[.int .i64 3, .int .i64 0, .string ⟨#[]⟩, .string ⟨#[111, 107]⟩, .slice none 0 0, .int .i64 0, .int .i64 0, .string ⟨#[]⟩, .string ⟨#[102, 114, 105, 101, 110, 100]⟩, .slice (some ⟨w.heap.size + 1 + 1 + 1, 0, none⟩) 1 1] 34
  c : CBlk X (w.heap.size + 1 + 1 + 1 + 1 + 1) #[.int .i64 0, .int .i64 0, .string ⟨#[]⟩, .string ⟨#[103, 111, 111, 100]⟩, .slice (some ⟨w.heap.size + 1 + 1, 0, none⟩) 1 1, .slice (some ⟨w.heap.size + 1 + 1 + 1 + 1, 0, none⟩) 2 2, .slice none 0 0] 38
  bw : Below w.heap.size w X
theorem FS.later {w X X' : World} (h : FS w X) (hb : Below X.heap.size X X') : FS w X' := ⟨h.x.later hb, h.b.later hb, h.a1.later hb, h.a2.later hb, h.at_.later hb, h.c.later hb, below_step h.bw hb⟩
theorem FS.start (w : World) : FS w ((((((w.alloc (.cells #[.int .i64 3, .int .i64 0, .string ⟨#[]⟩] 31)).alloc (.cells #[.int .i64 2, .int .i64 0, .string ⟨#[97, 108, 105, 99, 101]⟩] 31)).alloc (.cells #[.int .i64 3, .int .i64 0, .string ⟨#[]⟩] 31)).alloc (.cells #[.int .i64 3, .int .i64 0, .string ⟨#[]⟩] 31)).alloc (.cells #[.int .i64 3, .int .i64 0, .string ⟨#[]⟩, .string ⟨#[111, 107]⟩, .slice none 0 0, .int .i64 0, .int .i64 0, .string ⟨#[]⟩, .string ⟨#[102, 114, 105, 101, 110, 100]⟩, .slice (some ⟨w.heap.size + 1 + 1 + 1, 0, none⟩) 1 1] 34)).alloc (.cells #[.int .i64 0, .int .i64 0, .string ⟨#[]⟩, .string ⟨#[103, 111, 111, 100]⟩, .slice (some ⟨w.heap.size + 1 + 1, 0, none⟩) 1 1, .slice (some ⟨w.heap.size + 1 + 1 + 1 + 1, 0, none⟩) 2 2, .slice none 0 0] 38)) := by
  have s1 : (w.alloc (.cells #[.int .i64 3, .int .i64 0, .string ⟨#[]⟩] 31)).heap.size = w.heap.size + 1 := by simp
  have s2 : ((w.alloc (.cells #[.int .i64 3, .int .i64 0, .string ⟨#[]⟩] 31)).alloc (.cells #[.int .i64 2, .int .i64 0, .string ⟨#[97, 108, 105, 99, 101]⟩] 31)).heap.size = w.heap.size + 1 + 1 := by simp
  have s3 : (((w.alloc (.cells #[.int .i64 3, .int .i64 0, .string ⟨#[]⟩] 31)).alloc (.cells #[.int .i64 2, .int .i64 0, .string ⟨#[97, 108, 105, 99, 101]⟩] 31)).alloc (.cells #[.int .i64 3, .int .i64 0, .string ⟨#[]⟩] 31)).heap.size = w.heap.size + 1 + 1 + 1 := by simp
  have s4 : ((((w.alloc (.cells #[.int .i64 3, .int .i64 0, .string ⟨#[]⟩] 31)).alloc (.cells #[.int .i64 2, .int .i64 0, .string ⟨#[97, 108, 105, 99, 101]⟩] 31)).alloc (.cells #[.int .i64 3, .int .i64 0, .string ⟨#[]⟩] 31)).alloc (.cells #[.int .i64 3, .int .i64 0, .string ⟨#[]⟩] 31)).heap.size = w.heap.size + 1 + 1 + 1 + 1 := by simp
  have s5 : (((((w.alloc (.cells #[.int .i64 3, .int .i64 0, .string ⟨#[]⟩] 31)).alloc (.cells #[.int .i64 2, .int .i64 0, .string ⟨#[97, 108, 105, 99, 101]⟩] 31)).alloc (.cells #[.int .i64 3, .int .i64 0, .string ⟨#[]⟩] 31)).alloc (.cells #[.int .i64 3, .int .i64 0, .string ⟨#[]⟩] 31)).alloc (.cells #[.int .i64 3, .int .i64 0, .string ⟨#[]⟩, .string ⟨#[111, 107]⟩, .slice none 0 0, .int .i64 0, .int .i64 0, .string ⟨#[]⟩, .string ⟨#[102, 114, 105, 101, 110, 100]⟩, .slice (some ⟨w.heap.size + 1 + 1 + 1, 0, none⟩) 1 1] 34)).heap.size = w.heap.size + 1 + 1 + 1 + 1 + 1 := by simp
  have k1 := CBlk.new w #[.int .i64 3, .int .i64 0, .string ⟨#[]⟩] 31
  have k2 := CBlk.new (w.alloc (.cells #[.int .i64 3, .int .i64 0, .string ⟨#[]⟩] 31)) #[.int .i64 2, .int .i64 0, .string ⟨#[97, 108, 105, 99, 101]⟩] 31
  have k3 := CBlk.new ((w.alloc (.cells #[.int .i64 3, .int .i64 0, .string ⟨#[]⟩] 31)).alloc (.cells #[.int .i64 2, .int .i64 0, .string ⟨#[97, 108, 105, 99, 101]⟩] 31)) #[.int .i64 3, .int .i64 0, .string ⟨#[]⟩] 31
  have k4 := CBlk.new (((w.alloc (.cells #[.int .i64 3, .int .i64 0, .string ⟨#[]⟩] 31)).alloc (.cells #[.int .i64 2, .int .i64 0, .string ⟨#[97, 108, 105, 99, 101]⟩] 31)).alloc (.cells #[.int .i64 3, .int .i64 0, .string ⟨#[]⟩] 31)) #[.int .i64 3, .int .i64 0, .string ⟨#[]⟩] 31
  have k5 := CBlk.new ((((w.alloc (.cells #[.int .i64 3, .int .i64 0, .string ⟨#[]⟩] 31)).alloc (.cells #[.int .i64 2, .int .i64 0, .string ⟨#[97, 108, 105, 99, 101]⟩] 31)).alloc (.cells #[.int .i64 3, .int .i64 0, .string ⟨#[]⟩] 31)).alloc (.cells #[.int .i64 3, .int .i64 0, .string ⟨#[]⟩] 31)) #[.int .i64 3, .int .i64 0, .string ⟨#[]⟩, .string ⟨#[111, 107]⟩, .slice none 0 0, .int .i64 0, .int .i64 0, .string ⟨#[]⟩, .string ⟨#[102, 114, 105, 101, 110, 100]⟩, .slice (some ⟨w.heap.size + 1 + 1 + 1, 0, none⟩) 1 1] 34
  have k6 := CBlk.new (((((w.alloc (.cells #[.int .i64 3, .int .i64 0, .string ⟨#[]⟩] 31)).alloc (.cells #[.int .i64 2, .int .i64 0, .string ⟨#[97, 108, 105, 99, 101]⟩] 31)).alloc (.cells #[.int .i64 3, .int .i64 0, .string ⟨#[]⟩] 31)).alloc (.cells #[.int .i64 3, .int .i64 0, .string ⟨#[]⟩] 31)).alloc (.cells #[.int .i64 3, .int .i64 0, .string ⟨#[]⟩, .string ⟨#[111, 107]⟩, .slice none 0 0, .int .i64 0, .int .i64 0, .string ⟨#[]⟩, .string ⟨#[102, 114, 105, 101, 110, 100]⟩, .slice (some ⟨w.heap.size + 1 + 1 + 1, 0, none⟩) 1 1] 34)) #[.int .i64 0, .int .i64 0, .string ⟨#[]⟩, .string ⟨#[103, 111, 111, 100]⟩, .slice (some ⟨w.heap.size + 1 + 1, 0, none⟩) 1 1, .slice (some ⟨w.heap.size + 1 + 1 + 1 + 1, 0, none⟩) 2 2, .slice none 0 0] 38
  rw [s1] at k2
  rw [s2] at k3
  rw [s3] at k4
  rw [s4] at k5
  rw [s5] at k6
  have b1 := below1 w (.cells #[.int .i64 3, .int .i64 0, .string ⟨#[]⟩] 31)
  have b2 := below1 (w.alloc (.cells #[.int .i64 3, .int .i64 0, .string ⟨#[]⟩] 31)) (.cells #[.int .i64 2, .int .i64 0, .string ⟨#[97, 108, 105, 99, 101]⟩] 31)
  have b3 := below1 ((w.alloc (.cells #[.int .i64 3, .int .i64 0, .string ⟨#[]⟩] 31)).alloc (.cells #[.int .i64 2, .int .i64 0, .string ⟨#[97, 108, 105, 99, 101]⟩] 31)) (.cells #[.int .i64 3, .int .i64 0, .string ⟨#[]⟩] 31)
  have b4 := below1 (((w.alloc (.cells #[.int .i64 3, .int .i64 0, .string ⟨#[]⟩] 31)).alloc (.cells #[.int .i64 2, .int .i64 0, .string ⟨#[97, 108, 105, 99, 101]⟩] 31)).alloc (.cells #[.int .i64 3, .int .i64 0, .string ⟨#[]⟩] 31)) (.cells #[.int .i64 3, .int .i64 0, .string ⟨#[]⟩] 31)
  have b5 := below1 ((((w.alloc (.cells #[.int .i64 3, .int .i64 0, .string ⟨#[]⟩] 31)).alloc (.cells #[.int .i64 2, .int .i64 0, .string ⟨#[97, 108, 105, 99, 101]⟩] 31)).alloc (.cells #[.int .i64 3, .int .i64 0, .string ⟨#[]⟩] 31)).alloc (.cells #[.int .i64 3, .int .i64 0, .string ⟨#[]⟩] 31)) (.cells #[.int .i64 3, .int .i64 0, .string ⟨#[]⟩, .string ⟨#[111, 107]⟩, .slice none 0 0, .int .i64 0, .int .i64 0, .string ⟨#[]⟩, .string ⟨#[102, 114, 105, 101, 110, 100]⟩, .slice (some ⟨w.heap.size + 1 + 1 + 1, 0, none⟩) 1 1] 34)
  have b6 := below1 (((((w.alloc (.cells #[.int .i64 3, .int .i64 0, .string ⟨#[]⟩] 31)).alloc (.cells #[.int .i64 2, .int .i64 0, .string ⟨#[97, 108, 105, 99, 101]⟩] 31)).alloc (.cells #[.int .i64 3, .int .i64 0, .string ⟨#[]⟩] 31)).alloc (.cells #[.int .i64 3, .int .i64 0, .string ⟨#[]⟩] 31)).alloc (.cells #[.int .i64 3, .int .i64 0, .string ⟨#[]⟩, .string ⟨#[111, 107]⟩, .slice none 0 0, .int .i64 0, .int .i64 0, .string ⟨#[]⟩, .string ⟨#[102, 114, 105, 101, 110, 100]⟩, .slice (some ⟨w.heap.size + 1 + 1 + 1, 0, none⟩) 1 1] 34)) (.cells #[.int .i64 0, .int .i64 0, .string ⟨#[]⟩, .string ⟨#[103, 111, 111, 100]⟩, .slice (some ⟨w.heap.size + 1 + 1, 0, none⟩) 1 1, .slice (some ⟨w.heap.size + 1 + 1 + 1 + 1, 0, none⟩) 2 2, .slice none 0 0] 38)
  exact ⟨((((k1.later b2).later b3).later b4).later b5).later b6, (((k2.later b3).later b4).later b5).later b6, ((k3.later b4).later b5).later b6, (k4.later b5).later b6, k5.later b6, k6, below_step (below_step (below_step (below_step (below_step b1 b2) b3) b4) b5) b6⟩
theorem FS.ok {w X : World} (h : FS w X) : Cm.ok X ⟨(⟨⟨0, 0, ⟨#[]⟩⟩, ⟨#[103, 111, 111, 100]⟩, [⟨3, 0, ⟨#[]⟩⟩]⟩, .slice (some ⟨w.heap.size + 1 + 1, 0, none⟩) 1 1), [(⟨⟨3, 0, ⟨#[]⟩⟩, ⟨#[111, 107]⟩, []⟩, .slice none 0 0), (⟨⟨0, 0, ⟨#[]⟩⟩, ⟨#[102, 114, 105, 101, 110, 100]⟩, [⟨3, 0, ⟨#[]⟩⟩]⟩, .slice (some ⟨w.heap.size + 1 + 1 + 1, 0, none⟩) 1 1)], .slice (some ⟨w.heap.size + 1 + 1 + 1 + 1, 0, none⟩) 2 2, [], .slice none 0 0⟩ :=
  ⟨ts_one h.a1, as_two h.at_ (ts_none X) (ts_one h.a2), ⟨none, 0, rfl, by simp, Or.inl rfl⟩⟩
end Go.Proofs.Ytelcoihmiglceaa
/-
  ClauseChecks: the walk. (Written by CK1.py.)
-/
namespace Go.Proofs.Ytelcoihmiglceaa
open Go.RowKit
attribute [local go_sem ↓] Go.wp_at_zero Go.wp_at_succ

theorem aErr_fst : ∀ {l l' : List (At × Value)}, fsts l = fsts l' → aErr l = aErr l'
  | [], [], _ => rfl
  | [], _ :: _, h => by simp [fsts] at h
  | _ :: _, [], h => by simp [fsts] at h
  | x :: l, y :: l', h => by
    simp only [fsts, List.map_cons, List.cons.injEq] at h
    have ih := aErr_fst (l := l) (l' := l') h.2
    unfold aErr
    rw [h.1, ih]
theorem chk_key {c d : Cm} (h : d.key = c.key) : d.chk = c.chk := by
  have k1 : d.head.1 = c.head.1 := congrArg (fun k : Ck => k.1) h
  have k2 : fsts d.body = fsts c.body := congrArg (fun k : Ck => k.2.1) h
  have k3 : d.tests = c.tests := congrArg (fun k : Ck => k.2.2) h
  have e1 : long d = long c := by unfold long; rw [(key_len d).1, (key_len d).2, (key_len c).1, (key_len c).2, h]
  have e2 : aErr d.atoms = aErr c.atoms := aErr_fst (by unfold Cm.atoms; simp only [fsts, List.map_cons]; rw [k1]; congr 1)
  have e3 : badT d = badT c := by unfold badT; rw [k3]
  have e4 : unb d = unb c := by rw [unb_key, unb_key, h]
  have e5 : mis 0 d.vars = mis 0 c.vars := by rw [mis_key, mis_key, h]
  unfold Cm.chk Cm.rs
  rw [e1, e2, e3, e4, e5, k1]
end Go.Proofs.Ytelcoihmiglceaa
