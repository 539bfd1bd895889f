import Derived.Test.YtllgffmhbddigaaGreatRA16
import Derived.Test.YtllgffmhbddigaaGreatMP1
import Derived.Test.YtllgffmhbddigaaGreatCL5
import Derived.Test.YtllgffmhbddigaaGreatCL12
/-
  Blocks that a loop fills with atoms, with tests. (Written by CL17.py.)
-/
namespace Go.Proofs.YtllgffmhbddigaaGreat
open Go.RowKit

/-- Block g has room for n of them, and holds these. -/
def ABlk (w : World) (g n : Nat) (l : List (At × Value)) : Prop := ∃ C : Array Value, w.heap[g]? = some (.cells C 26 (0, 0)) ∧ C.size = n * 5 ∧
  ∀ i x, l[i]? = some x → C[i * 5]? = some (.int .i64 x.1.by_.k) ∧ C[i * 5 + 1]? = some (.int .i64 x.1.by_.n) ∧ C[i * 5 + 2]? = some (.string x.1.by_.s) ∧ C[i * 5 + 3]? = some (.string x.1.name) ∧ C[i * 5 + 4]? = some (x.2)
theorem ABlk.lt {w : World} {g n : Nat} {l : List (At × Value)} (h : ABlk w g n l) : g < w.heap.size := by obtain ⟨C, h1, -⟩ := h; exact (Array.getElem?_eq_some_iff.1 h1).1
theorem ABlk.later {w w' : World} {g n : Nat} {l : List (At × Value)} (h : ABlk w g n l) (hb : Below w.heap.size w w') : ABlk w' g n l := by
  obtain ⟨C, h1, h2⟩ := h
  exact ⟨C, (hb.block _ (Array.getElem?_eq_some_iff.1 h1).1).trans h1, h2⟩
theorem ABlk.other {w : World} {g n G i : Nat} {a : Value} {l : List (At × Value)} (h : ABlk w g n l) (hk : g ≠ G) : ABlk (w.setCell ⟨G, i, none⟩ a) g n l := by
  obtain ⟨C, h1, h2⟩ := h
  exact ⟨C, by rw [heap_setCell_other _ _ _ _ hk]; exact h1, h2⟩
theorem ABlk.cells {w : World} {g n j : Nat} {l : List (At × Value)} (h : ABlk w g n l) (hj : j < n * 5) : (∃ c, w.cell? ⟨g, j, none⟩ = some c) ∧ w.frozen? ⟨g, j, none⟩ = false := by
  obtain ⟨C, h1, h2, -⟩ := h
  refine ⟨⟨C[j], ?_⟩, frozen_of_row _ _ _ _ _ h1⟩
  rw [cell_of_row _ _ _ _ _ _ h1]; simp
abbrev Aput (w : World) (g k : Nat) (x : At × Value) : World := (((((w.setCell ⟨g, k * 5, none⟩ (.int .i64 x.1.by_.k)).setCell ⟨g, k * 5 + 1, none⟩ (.int .i64 x.1.by_.n)).setCell ⟨g, k * 5 + 2, none⟩ (.string x.1.by_.s)).setCell ⟨g, k * 5 + 3, none⟩ (.string x.1.name)).setCell ⟨g, k * 5 + 4, none⟩ (x.2))
theorem ABlk.put {w : World} {g n : Nat} {l : List (At × Value)} (h : ABlk w g n l) (hk : l.length < n) (x : At × Value) : ABlk (Aput w g l.length x) g n (l ++ [x]) := by
  obtain ⟨C, h1, h2, h3⟩ := h
  have e0 := heap_setCell_same _ _ (l.length * 5) _ _ (.int .i64 x.1.by_.k) h1
  have e1 := heap_setCell_same _ _ (l.length * 5 + 1) _ _ (.int .i64 x.1.by_.n) e0
  have e2 := heap_setCell_same _ _ (l.length * 5 + 2) _ _ (.string x.1.by_.s) e1
  have e3 := heap_setCell_same _ _ (l.length * 5 + 3) _ _ (.string x.1.name) e2
  have e4 := heap_setCell_same _ _ (l.length * 5 + 4) _ _ (x.2) e3
  refine ⟨_, e4, by simp [h2], fun i u hu => ?_⟩
  by_cases hik : i < l.length
  · rw [List.getElem?_append_left hik] at hu
    obtain ⟨q0, q1, q2, q3, q4⟩ := h3 i u hu
    refine ⟨?_, ?_, ?_, ?_, ?_⟩
    · rw [Array.getElem?_setIfInBounds_ne (by omega), Array.getElem?_setIfInBounds_ne (by omega), Array.getElem?_setIfInBounds_ne (by omega), Array.getElem?_setIfInBounds_ne (by omega), Array.getElem?_setIfInBounds_ne (by omega)]; exact q0
    · rw [Array.getElem?_setIfInBounds_ne (by omega), Array.getElem?_setIfInBounds_ne (by omega), Array.getElem?_setIfInBounds_ne (by omega), Array.getElem?_setIfInBounds_ne (by omega), Array.getElem?_setIfInBounds_ne (by omega)]; exact q1
    · rw [Array.getElem?_setIfInBounds_ne (by omega), Array.getElem?_setIfInBounds_ne (by omega), Array.getElem?_setIfInBounds_ne (by omega), Array.getElem?_setIfInBounds_ne (by omega), Array.getElem?_setIfInBounds_ne (by omega)]; exact q2
    · rw [Array.getElem?_setIfInBounds_ne (by omega), Array.getElem?_setIfInBounds_ne (by omega), Array.getElem?_setIfInBounds_ne (by omega), Array.getElem?_setIfInBounds_ne (by omega), Array.getElem?_setIfInBounds_ne (by omega)]; exact q3
    · rw [Array.getElem?_setIfInBounds_ne (by omega), Array.getElem?_setIfInBounds_ne (by omega), Array.getElem?_setIfInBounds_ne (by omega), Array.getElem?_setIfInBounds_ne (by omega), Array.getElem?_setIfInBounds_ne (by omega)]; exact q4
  · have hil : i = l.length := by
      have := (List.getElem?_eq_some_iff.1 hu).1
      simp at this; omega
    subst hil
    simp at hu
    subst hu
    refine ⟨?_, ?_, ?_, ?_, ?_⟩ <;> simp [Array.getElem?_setIfInBounds, h2] <;> omega

/-- Block g has room for n of them, and holds these. -/
def EBlk (w : World) (g n : Nat) (l : List (Te)) : Prop := ∃ C : Array Value, w.heap[g]? = some (.cells C 45 (0, 0)) ∧ C.size = n * 7 ∧
  ∀ i x, l[i]? = some x → C[i * 7]? = some (.int .i64 x.op) ∧ C[i * 7 + 1]? = some (.int .i64 x.l.k) ∧ C[i * 7 + 2]? = some (.int .i64 x.l.n) ∧ C[i * 7 + 3]? = some (.string x.l.s) ∧ C[i * 7 + 4]? = some (.int .i64 x.r.k) ∧ C[i * 7 + 5]? = some (.int .i64 x.r.n) ∧ C[i * 7 + 6]? = some (.string x.r.s)
theorem EBlk.lt {w : World} {g n : Nat} {l : List (Te)} (h : EBlk w g n l) : g < w.heap.size := by obtain ⟨C, h1, -⟩ := h; exact (Array.getElem?_eq_some_iff.1 h1).1
theorem EBlk.later {w w' : World} {g n : Nat} {l : List (Te)} (h : EBlk w g n l) (hb : Below w.heap.size w w') : EBlk w' g n l := by
  obtain ⟨C, h1, h2⟩ := h
  exact ⟨C, (hb.block _ (Array.getElem?_eq_some_iff.1 h1).1).trans h1, h2⟩
theorem EBlk.other {w : World} {g n G i : Nat} {a : Value} {l : List (Te)} (h : EBlk w g n l) (hk : g ≠ G) : EBlk (w.setCell ⟨G, i, none⟩ a) g n l := by
  obtain ⟨C, h1, h2⟩ := h
  exact ⟨C, by rw [heap_setCell_other _ _ _ _ hk]; exact h1, h2⟩
theorem EBlk.cells {w : World} {g n j : Nat} {l : List (Te)} (h : EBlk w g n l) (hj : j < n * 7) : (∃ c, w.cell? ⟨g, j, none⟩ = some c) ∧ w.frozen? ⟨g, j, none⟩ = false := by
  obtain ⟨C, h1, h2, -⟩ := h
  refine ⟨⟨C[j], ?_⟩, frozen_of_row _ _ _ _ _ h1⟩
  rw [cell_of_row _ _ _ _ _ _ h1]; simp
abbrev Eput (w : World) (g k : Nat) (x : Te) : World := (((((((w.setCell ⟨g, k * 7, none⟩ (.int .i64 x.op)).setCell ⟨g, k * 7 + 1, none⟩ (.int .i64 x.l.k)).setCell ⟨g, k * 7 + 2, none⟩ (.int .i64 x.l.n)).setCell ⟨g, k * 7 + 3, none⟩ (.string x.l.s)).setCell ⟨g, k * 7 + 4, none⟩ (.int .i64 x.r.k)).setCell ⟨g, k * 7 + 5, none⟩ (.int .i64 x.r.n)).setCell ⟨g, k * 7 + 6, none⟩ (.string x.r.s))
theorem EBlk.put {w : World} {g n : Nat} {l : List (Te)} (h : EBlk w g n l) (hk : l.length < n) (x : Te) : EBlk (Eput w g l.length x) g n (l ++ [x]) := by
  obtain ⟨C, h1, h2, h3⟩ := h
  have e0 := heap_setCell_same _ _ (l.length * 7) _ _ (.int .i64 x.op) h1
  have e1 := heap_setCell_same _ _ (l.length * 7 + 1) _ _ (.int .i64 x.l.k) e0
  have e2 := heap_setCell_same _ _ (l.length * 7 + 2) _ _ (.int .i64 x.l.n) e1
  have e3 := heap_setCell_same _ _ (l.length * 7 + 3) _ _ (.string x.l.s) e2
  have e4 := heap_setCell_same _ _ (l.length * 7 + 4) _ _ (.int .i64 x.r.k) e3
  have e5 := heap_setCell_same _ _ (l.length * 7 + 5) _ _ (.int .i64 x.r.n) e4
  have e6 := heap_setCell_same _ _ (l.length * 7 + 6) _ _ (.string x.r.s) e5
  refine ⟨_, e6, by simp [h2], fun i u hu => ?_⟩
  by_cases hik : i < l.length
  · rw [List.getElem?_append_left hik] at hu
    obtain ⟨q0, q1, q2, q3, q4, q5, q6⟩ := h3 i u hu
    refine ⟨?_, ?_, ?_, ?_, ?_, ?_, ?_⟩
    · rw [Array.getElem?_setIfInBounds_ne (by omega), Array.getElem?_setIfInBounds_ne (by omega), Array.getElem?_setIfInBounds_ne (by omega), Array.getElem?_setIfInBounds_ne (by omega), Array.getElem?_setIfInBounds_ne (by omega), Array.getElem?_setIfInBounds_ne (by omega), Array.getElem?_setIfInBounds_ne (by omega)]; exact q0
    · rw [Array.getElem?_setIfInBounds_ne (by omega), Array.getElem?_setIfInBounds_ne (by omega), Array.getElem?_setIfInBounds_ne (by omega), Array.getElem?_setIfInBounds_ne (by omega), Array.getElem?_setIfInBounds_ne (by omega), Array.getElem?_setIfInBounds_ne (by omega), Array.getElem?_setIfInBounds_ne (by omega)]; exact q1
    · rw [Array.getElem?_setIfInBounds_ne (by omega), Array.getElem?_setIfInBounds_ne (by omega), Array.getElem?_setIfInBounds_ne (by omega), Array.getElem?_setIfInBounds_ne (by omega), Array.getElem?_setIfInBounds_ne (by omega), Array.getElem?_setIfInBounds_ne (by omega), Array.getElem?_setIfInBounds_ne (by omega)]; exact q2
    · rw [Array.getElem?_setIfInBounds_ne (by omega), Array.getElem?_setIfInBounds_ne (by omega), Array.getElem?_setIfInBounds_ne (by omega), Array.getElem?_setIfInBounds_ne (by omega), Array.getElem?_setIfInBounds_ne (by omega), Array.getElem?_setIfInBounds_ne (by omega), Array.getElem?_setIfInBounds_ne (by omega)]; exact q3
    · rw [Array.getElem?_setIfInBounds_ne (by omega), Array.getElem?_setIfInBounds_ne (by omega), Array.getElem?_setIfInBounds_ne (by omega), Array.getElem?_setIfInBounds_ne (by omega), Array.getElem?_setIfInBounds_ne (by omega), Array.getElem?_setIfInBounds_ne (by omega), Array.getElem?_setIfInBounds_ne (by omega)]; exact q4
    · rw [Array.getElem?_setIfInBounds_ne (by omega), Array.getElem?_setIfInBounds_ne (by omega), Array.getElem?_setIfInBounds_ne (by omega), Array.getElem?_setIfInBounds_ne (by omega), Array.getElem?_setIfInBounds_ne (by omega), Array.getElem?_setIfInBounds_ne (by omega), Array.getElem?_setIfInBounds_ne (by omega)]; exact q5
    · rw [Array.getElem?_setIfInBounds_ne (by omega), Array.getElem?_setIfInBounds_ne (by omega), Array.getElem?_setIfInBounds_ne (by omega), Array.getElem?_setIfInBounds_ne (by omega), Array.getElem?_setIfInBounds_ne (by omega), Array.getElem?_setIfInBounds_ne (by omega), Array.getElem?_setIfInBounds_ne (by omega)]; exact q6
  · have hil : i = l.length := by
      have := (List.getElem?_eq_some_iff.1 hu).1
      simp at this; omega
    subst hil
    simp at hu
    subst hu
    refine ⟨?_, ?_, ?_, ?_, ?_, ?_, ?_⟩ <;> simp [Array.getElem?_setIfInBounds, h2] <;> omega

theorem Tryz.infoAtom : (Tryz.prog.info? 26).map (fun i => (i.zero, i.size, i.bytes)) = some (some (.agg #[.int .i64 0, .int .i64 0, .string ⟨#[]⟩, .string ⟨#[]⟩, .slice none 0 0]), 5, 72) := by kernel_rfl
def MA (n : Nat) : Array Value := madeCells #[.int .i64 0, .int .i64 0, .string ⟨#[]⟩, .string ⟨#[]⟩, .slice none 0 0] (n * 5)
theorem mk_atoms (n : Nat) (hn : n ≤ 1900000000000) (w : World) : (Instr.makeSlice 27 (.int .i64 (n : Int)) (.int .i64 (n : Int))).run Tryz.prog w = .ok (.slice (some ⟨w.heap.size, 0, none⟩) n n) (w.alloc (.cells (MA n) 26)) := by
  obtain ⟨i, hi, h0, h1, h2⟩ := info_parts Tryz.infoAtom
  have h := run_make (P := Tryz.prog) w 27 26 i _ Tryz.underlying27 hi h0 .i64 .i64 n n (by omega) (Int.le_refl _) (by rw [h2]; omega) (by omega)
  rw [h1, Int.toNat_natCast] at h
  exact h
theorem Tryz.infoTest : (Tryz.prog.info? 45).map (fun i => (i.zero, i.size, i.bytes)) = some (some (.agg #[.int .i64 0, .int .i64 0, .int .i64 0, .string ⟨#[]⟩, .int .i64 0, .int .i64 0, .string ⟨#[]⟩]), 7, 72) := by kernel_rfl
def ME (n : Nat) : Array Value := madeCells #[.int .i64 0, .int .i64 0, .int .i64 0, .string ⟨#[]⟩, .int .i64 0, .int .i64 0, .string ⟨#[]⟩] (n * 7)
theorem mk_tests (n : Nat) (hn : n ≤ 1900000000000) (w : World) : (Instr.makeSlice 28 (.int .i64 (n : Int)) (.int .i64 (n : Int))).run Tryz.prog w = .ok (.slice (some ⟨w.heap.size, 0, none⟩) n n) (w.alloc (.cells (ME n) 45)) := by
  obtain ⟨i, hi, h0, h1, h2⟩ := info_parts Tryz.infoTest
  have h := run_make (P := Tryz.prog) w 28 45 i _ Tryz.underlying28 hi h0 .i64 .i64 n n (by omega) (Int.le_refl _) (by rw [h2]; omega) (by omega)
  rw [h1, Int.toNat_natCast] at h
  exact h
theorem ABlk.start {w : World} {g n : Nat} (h : w.heap[g]? = some (.cells (MA n) 26 (0, 0))) : ABlk w g n [] := ⟨_, h, by rw [MA, size_madeCells], fun i x hx => by simp at hx⟩
theorem EBlk.start {w : World} {g n : Nat} (h : w.heap[g]? = some (.cells (ME n) 45 (0, 0))) : EBlk w g n [] := ⟨_, h, by rw [ME, size_madeCells], fun i x hx => by simp at hx⟩
/-- A list of terms that doesn't lie in block g. -/
def TsN (w : World) (g : Nat) (v : Value) (l : List Tm) : Prop := Ts w v l ∧ v.ownBlock ≠ some g
theorem TsN.later {w w' : World} {g : Nat} {v : Value} {l : List Tm} (h : TsN w g v l) (hb : Below w.heap.size w w') : TsN w' g v l := ⟨h.1.later hb, h.2⟩
theorem Ts.off {w : World} {g i : Nat} {u v : Value} {l : List Tm} (h : Ts w v l) (hne : v.ownBlock ≠ some g) : Ts (w.setCell ⟨g, i, none⟩ u) v l := by
  obtain ⟨a, cap, rfl, hl, hm⟩ := h
  refine ⟨a, cap, rfl, hl, ?_⟩
  rcases hm with hm | ⟨b, o, rfl, hb, hm⟩
  · exact Or.inl hm
  · have hbg : b ≠ g := fun e => hne (by rw [e]; rfl)
    have hc : ∀ j, (w.setCell ⟨g, i, none⟩ u).cell? ⟨b, j, none⟩ = w.cell? ⟨b, j, none⟩ := fun j => World.cell?_of_block (w := w) (a := ⟨b, j, none⟩) (heap_setCell_other _ _ _ _ hbg)
    refine Or.inr ⟨b, o, rfl, by simpa [World.setCell] using hb, fun q t ht => ?_⟩
    simp only [hc]
    exact hm q t ht
theorem TsN.off {w : World} {g i : Nat} {u v : Value} {l : List Tm} (h : TsN w g v l) : TsN (w.setCell ⟨g, i, none⟩ u) g v l := ⟨h.1.off h.2, h.2⟩
end Go.Proofs.YtllgffmhbddigaaGreat
/-
  replaced, with what copies each term. (Written by CL18.py.)
-/
namespace Go.Proofs.YtllgffmhbddigaaGreat
open Go.RowKit
attribute [local go_sem ↓] Go.wp_at_zero Go.wp_at_succ

def zcs : Array Value := #[.int .i64 0, .int .i64 0, .string ⟨#[]⟩, .string ⟨#[]⟩, .slice none 0 0, .slice none 0 0, .slice none 0 0]
theorem fsts_get {l : List (At × Value)} {j : Nat} {x : At × Value} (h : l[j]? = some x) : (fsts l)[j]? = some x.1 := by unfold fsts; rw [List.getElem?_map, h]; rfl
theorem fsts_app (l m : List (At × Value)) : fsts (l ++ m) = fsts l ++ fsts m := by simp [fsts]
end Go.Proofs.YtllgffmhbddigaaGreat
/-
  Quote, of a clause that may be quoted. (Written by CL20.py.)
-/
namespace Go.Proofs.YtllgffmhbddigaaGreat
open Go.RowKit
attribute [local go_sem ↓] Go.wp_at_zero Go.wp_at_succ

/-- An atom quoted. -/
def qa (u : ByteArray) (x : At) : At := if x.by_ = zt then ⟨⟨2, 0, u⟩, x.name, x.args⟩ else x
theorem CBlk.froz {w : World} {g i : Nat} {c : Array Value} {t : TypeId} (h : CBlk w g c t) : w.frozen? ⟨g, i, none⟩ = false := frozen_of_row _ _ _ _ _ h

end Go.Proofs.YtllgffmhbddigaaGreat
/-
  What Instance makes of a term.
-/
namespace Go.Proofs.YtllgffmhbddigaaGreat
open Go.RowKit
attribute [local go_sem ↓] Go.wp_at_zero Go.wp_at_succ

/-- The list of values in its box. -/
def VB (w : World) (P : Nat) (v : Value) (vs : List Tm) : Prop := CBlk w P #[v] 24 ∧ Ts w v vs
theorem VB.later {w w' : World} {P : Nat} {v : Value} {vs : List Tm} (h : VB w P v vs) (hb : Below w.heap.size w w') : VB w' P v vs := ⟨h.1.later hb, h.2.later hb⟩
def ins (vs : List Tm) (t : Tm) : Tm := if t.var = true then (vs[t.n.toNat]?).getD t else t
theorem cone {w : World} {g : Nat} {a : Value} {t : TypeId} (h : CBlk w g #[a] t) : w.cell? ⟨g, 0, none⟩ = some a := cell_of_row _ _ _ _ _ _ h
theorem two3 (w : World) (t : Tm) : CBlk ((w.alloc (.cells #[.int .i64 t.k, .int .i64 t.n, .string t.s] 23)).alloc (.cells #[.int .i64 0, .int .i64 0, .string ⟨#[]⟩] 23)) w.heap.size #[.int .i64 t.k, .int .i64 t.n, .string t.s] 23 ∧
    CBlk ((w.alloc (.cells #[.int .i64 t.k, .int .i64 t.n, .string t.s] 23)).alloc (.cells #[.int .i64 0, .int .i64 0, .string ⟨#[]⟩] 23)) (w.heap.size + 1) #[.int .i64 0, .int .i64 0, .string ⟨#[]⟩] 23 := by
  have x2 := CBlk.new (w.alloc (.cells #[.int .i64 t.k, .int .i64 t.n, .string t.s] 23)) #[.int .i64 0, .int .i64 0, .string ⟨#[]⟩] 23
  rw [show (w.alloc (.cells #[.int .i64 t.k, .int .i64 t.n, .string t.s] 23)).heap.size = w.heap.size + 1 by simp] at x2
  exact ⟨(CBlk.new w _ _).later (below1 _ _), x2⟩
set_option maxRecDepth 20000 in
set_option maxHeartbeats 4000000 in
theorem ins1_any (vs : List Tm) (v : Value) (P : Nat) (t : Tm) (w : World) (h : VB w P v vs) : Calls Tryz.prog 63 #[t.v, .pointer (some ⟨P, 0, none⟩)] w fun e w' => e = .returned (ins vs t).v ∧ Below w.heap.size w w' := by
  have HV : Hid (VB w P v vs) := h
  have hvar := fun X => var_any t X
  obtain ⟨b, hb⟩ : ∃ b, t.var = b := ⟨_, rfl⟩
  have HB : Hid (t.var = b) := hb
  rw [hb] at hvar
  have HVA : Hid (∀ X : World, Calls Tryz.prog 64 #[t.v] X fun e w' => e = .returned (.bool b) ∧ Below X.heap.size X w') := hvar
  obtain ⟨R, hR⟩ : ∃ R, ins vs t = R := ⟨_, rfl⟩
  have HR : Hid (ins vs t = R) := hR
  have HT3 : Hid (CBlk _ _ _ _ ∧ CBlk _ _ _ _) := two3 w t
  rw [hR]
  clear hvar hb hR
  obtain ⟨k, n, s⟩ := t
  obtain ⟨ad, cap, rfl, hvl, hm⟩ := h.2
  clear h
  cases b
  · obtain rfl : (⟨k, n, s⟩ : Tm) = R := by have := HR.out; unfold ins at this; rw [HB.out, if_neg (by simp)] at this; exact this
    go_enter Tryz.func63, Tryz.ntmps63
    go_wp2_with (go_at_call 64; refine (HVA.out _).mono ?_; clear HVA; rintro e w1 ⟨rfl, hb⟩; obtain ⟨c0, c1, c2⟩ := cthree (HT3.out.1.later hb); obtain ⟨r0, r1, r2⟩ := cthree (HT3.out.2.later hb); have f0 : w1.frozen? ⟨w.heap.size + 1, 0, none⟩ = false := (HT3.out.2.later hb).froz; have f1 : w1.frozen? ⟨w.heap.size + 1, 1, none⟩ = false := (HT3.out.2.later hb).froz; have f2 : w1.frozen? ⟨w.heap.size + 1, 2, none⟩ = false := (HT3.out.2.later hb).froz; have HW : Hid (Below w.heap.size w w1) := below_step (below2 _ _ _) hb; clear hb HT3; simp only at c0 c1 c2)
    have nw : w.heap.size ≤ w.heap.size + 1 := by omega
    exact bodyPost_ret (v := Tm.v ⟨k, n, s⟩) (by simp [results, Tryz.results63, go_sem, r0, r1, r2]) rfl ⟨rfl, ((HW.out.setCell nw _).setCell nw _).setCell nw _⟩
  · have hn0 : 0 ≤ n := by have := HB.out; unfold Tm.var at this; exact (of_decide_eq_true this).2.1
    by_cases hlt : n < (vs.length : Int)
    · have hlt' : n.toNat < vs.length := by omega
      obtain ⟨y, hy⟩ : ∃ y, vs[n.toNat]? = some y := ⟨_, List.getElem?_eq_getElem hlt'⟩
      obtain rfl : y = R := by have := HR.out; unfold ins at this; rw [HB.out, if_pos rfl] at this; simp only [hy, Option.getD_some] at this; exact this
      obtain ⟨j, rfl⟩ : ∃ j : Nat, n = (j : Int) := ⟨n.toNat, by omega⟩
      rcases hm with hm | ⟨bb, o, rfl, hm⟩
      · subst hm; simp at hlt'
      have hlb := hm.1
      have HM : Hid _ := hm.2 j y (by simpa using hy)
      clear hm hy hlt'
      obtain ⟨yk, yn, ys⟩ := y
      go_enter Tryz.func63, Tryz.ntmps63
      go_wp2_with (go_at_call 64; refine (HVA.out _).mono ?_; clear HVA; rintro e w1 ⟨rfl, hb⟩; obtain ⟨c0, c1, c2⟩ := cthree (HT3.out.1.later hb); obtain ⟨r0, r1, r2⟩ := cthree (HT3.out.2.later hb); have f0 : w1.frozen? ⟨w.heap.size + 1, 0, none⟩ = false := (HT3.out.2.later hb).froz; have f1 : w1.frozen? ⟨w.heap.size + 1, 1, none⟩ = false := (HT3.out.2.later hb).froz; have f2 : w1.frozen? ⟨w.heap.size + 1, 2, none⟩ = false := (HT3.out.2.later hb).froz; have HW : Hid (Below w.heap.size w w1) := below_step (below2 _ _ _) hb; have e0 := cone (HV.out.later HW.out).1; have q0 := cell_step HW.out hlb HM.out.1; have q1 := cell_step HW.out hlb HM.out.2.1; have q2 := cell_step HW.out hlb HM.out.2.2; clear hb HT3 HM; simp only at c0 c1 c2 q0 q1 q2)
      have nw : w.heap.size ≤ w.heap.size + 1 := by omega
      exact bodyPost_ret (v := Tm.v ⟨yk, yn, ys⟩) (by simp [results, Tryz.results63, go_sem, r0, r1, r2]) rfl ⟨rfl, ((HW.out.setCell nw _).setCell nw _).setCell nw _⟩
    · obtain rfl : (⟨k, n, s⟩ : Tm) = R := by have := HR.out; unfold ins at this; rw [HB.out, if_pos rfl] at this; simp only [List.getElem?_eq_none (show vs.length ≤ n.toNat by omega), Option.getD_none] at this; exact this
      go_enter Tryz.func63, Tryz.ntmps63
      go_wp2_with (go_at_call 64; refine (HVA.out _).mono ?_; clear HVA; rintro e w1 ⟨rfl, hb⟩; obtain ⟨c0, c1, c2⟩ := cthree (HT3.out.1.later hb); obtain ⟨r0, r1, r2⟩ := cthree (HT3.out.2.later hb); have f0 : w1.frozen? ⟨w.heap.size + 1, 0, none⟩ = false := (HT3.out.2.later hb).froz; have f1 : w1.frozen? ⟨w.heap.size + 1, 1, none⟩ = false := (HT3.out.2.later hb).froz; have f2 : w1.frozen? ⟨w.heap.size + 1, 2, none⟩ = false := (HT3.out.2.later hb).froz; have HW : Hid (Below w.heap.size w w1) := below_step (below2 _ _ _) hb; have e0 := cone (HV.out.later HW.out).1; clear hb HT3; simp only at c0 c1 c2)
      have nw : w.heap.size ≤ w.heap.size + 1 := by omega
      exact bodyPost_ret (v := Tm.v ⟨k, n, s⟩) (by simp [results, Tryz.results63, go_sem, r0, r1, r2]) rfl ⟨rfl, ((HW.out.setCell nw _).setCell nw _).setCell nw _⟩
end Go.Proofs.YtllgffmhbddigaaGreat
