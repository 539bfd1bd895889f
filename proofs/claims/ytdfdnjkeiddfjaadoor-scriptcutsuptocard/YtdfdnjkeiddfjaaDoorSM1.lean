/-
  script (stage 25): the program's table of lines, as it is laid.
-/
import Derived.Test.YtdfdnjkeiddfjaaDoorSC3
import Derived.Test.YtdfdnjkeiddfjaaDoorJ6
import Derived.Laws.IdiomArrays
namespace Go.Proofs.YtdfdnjkeiddfjaaDoor
open Go.ChangeShapes Go.WideShapes Go.ChangeAt Go.RowKit

/-- A row: the name, the kind, the parts by number. -/
structure RoA where
  x : ByteArray
  k : Int
  a : Int
  b : Int
  c : Int
def zrA : RoA := ⟨⟨#[]⟩, 0, 0, 0, 0⟩
def rwA : List RoA := [⟨⟨#[101, 110, 114, 111, 108, 108]⟩, 1, 1, 0, 0⟩, ⟨⟨#[97, 115, 115, 101, 114, 116]⟩, 2, 1, 3, 0⟩, ⟨⟨#[114, 101, 116, 114, 97, 99, 116]⟩, 3, 1, 3, 0⟩, ⟨⟨#[101, 120, 112, 111, 114, 116]⟩, 4, 1, 3, 5⟩, ⟨⟨#[105, 109, 112, 111, 114, 116]⟩, 5, 1, 5, 0⟩, ⟨⟨#[102, 111, 114, 103, 101, 116]⟩, 6, 1, 3, 0⟩, ⟨⟨#[113, 117, 101, 114, 121]⟩, 7, 1, 3, 5⟩, ⟨⟨#[97, 115, 107]⟩, 8, 1, 3, 0⟩, ⟨⟨#[119, 97, 116, 99, 104]⟩, 9, 1, 3, 0⟩, ⟨⟨#[119, 104, 121]⟩, 11, 1, 3, 0⟩, ⟨⟨#[110, 101, 119, 115]⟩, 10, 1, 5, 0⟩, ⟨⟨#[108, 111, 115, 115]⟩, 12, 1, 2, 0⟩, ⟨⟨#[112, 114, 111, 118, 101]⟩, 13, 1, 3, 5⟩, ⟨⟨#[115, 104, 111, 119]⟩, 14, 1, 5, 0⟩, ⟨⟨#[99, 108, 97, 117, 115, 101, 115]⟩, 15, 1, 0, 0⟩, ⟨⟨#[114, 101, 100, 117, 110, 100, 97, 110, 116]⟩, 24, 1, 0, 0⟩, ⟨⟨#[100, 114, 111, 112]⟩, 16, 5, 0, 0⟩, ⟨⟨#[99, 111, 112, 121]⟩, 17, 5, 0, 0⟩, ⟨⟨#[115, 119, 97, 112]⟩, 18, 5, 6, 0⟩, ⟨⟨#[102, 108, 105, 112]⟩, 19, 5, 6, 7⟩, ⟨⟨#[99, 117, 116]⟩, 20, 5, 6, 0⟩, ⟨⟨#[102, 111, 114, 103, 101]⟩, 21, 4, 0, 0⟩, ⟨⟨#[119, 97, 105, 116, 105, 110, 103]⟩, 22, 0, 0, 0⟩, ⟨⟨#[99, 114, 97, 115, 104]⟩, 23, 1, 6, 0⟩]
def RoA.cs (r : RoA) : List Value := [.string r.x, .int .i64 r.k, .int .i64 r.a, .int .i64 r.b, .int .i64 r.c]
def tblV : Array Value := (rwA.flatMap RoA.cs).toArray
theorem fm_at {α : Type} (f : α → List Value) (n : Nat) (hf : ∀ x, (f x).length = n) (z : α) : ∀ (l : List α) (i : Nat), i < l.length → ((l.flatMap f).drop (i * n)).take n = f (l.getD i z)
  | [], i, h => by simp at h
  | x :: l, 0, h => by
    rw [List.flatMap_cons, Nat.zero_mul, List.drop_zero, List.take_append_of_le_length (by rw [hf]; exact Nat.le_refl _), List.take_of_length_le (by rw [hf]; exact Nat.le_refl _)]
    rfl
  | x :: l, i + 1, h => by
    have := fm_at f n hf z l i (by simpa using h)
    rw [List.flatMap_cons, show (i + 1) * n = n + i * n by rw [Nat.add_mul, Nat.one_mul, Nat.add_comm], List.drop_append, hf, List.drop_of_length_le (by rw [hf]; exact Nat.le_add_right _ _), List.nil_append, Nat.add_sub_cancel_left, this]
    rfl
theorem fm_len {α : Type} (f : α → List Value) (n : Nat) (hf : ∀ x, (f x).length = n) : ∀ (l : List α), (l.flatMap f).length = l.length * n
  | [] => by simp
  | x :: l => by rw [List.flatMap_cons, List.length_append, hf, fm_len f n hf l, List.length_cons, Nat.add_mul, Nat.one_mul, Nat.add_comm]
theorem chunks_eq (m n : Nat) (hn : 0 < n) (a b : List Value) (ha : a.length = m * n) (hb : b.length = m * n) (h : ∀ i, i < m → (a.drop (i * n)).take n = (b.drop (i * n)).take n) : a = b := by
  apply List.ext_getElem?
  intro q
  rcases Nat.lt_or_ge q (m * n) with hq | hq
  · have h1 : q / n < m := Nat.div_lt_of_lt_mul (by rw [Nat.mul_comm]; exact hq)
    have h2 : q % n < n := Nat.mod_lt _ hn
    have h3 : q = q / n * n + q % n := by rw [Nat.mul_comm]; exact (Nat.div_add_mod q n).symm
    have h4 := congrArg (fun l => l[q % n]?) (h (q / n) h1)
    simp only [List.getElem?_take_of_lt h2, List.getElem?_drop] at h4
    rw [← h3] at h4
    exact h4
  · rw [List.getElem?_eq_none (by omega), List.getElem?_eq_none (by omega)]
def TblOk (w : World) : Prop := ∃ t fr, w.heap[0]? = some (.cells tblV t fr)
theorem TblOk.later {w w' : World} (h : TblOk w) (hb : Below w.heap.size w w') : TblOk w' := by
  obtain ⟨t, fr, h1⟩ := h
  exact ⟨t, fr, (hb.block _ (Array.getElem?_eq_some_iff.1 h1).1).trans h1⟩
theorem Tryd.gRowsA : Tryd.prog.globalNamed "hearsay/script.rows" = some 0 := by kernel_rfl
theorem Tryd.tRowsA : (Tryd.prog.globals[0]?).map (·.type) = some 83 := by kernel_rfl
theorem Tryd.cellsRowsA : Tryd.prog.cellsOf 83 = 120 := by kernel_rfl
theorem Tryd.cellsRowA : Tryd.prog.cellsOf 55 = 5 := by kernel_rfl
theorem Tryd.cellsOrdA : Tryd.prog.cellsOf 53 = 3 := by kernel_rfl
theorem Tryd.cellsIntA : Tryd.prog.cellsOf 3 = 1 := by kernel_rfl
def RoA.lit {H : Type} (r : RoA) : DataW H := .agg [.lit (.string r.x.data.toList), .lit (.int .i64 r.k), .agg [.lit (.int .i64 r.a), .lit (.int .i64 r.b), .lit (.int .i64 r.c)]]
set_option maxRecDepth 100000 in
theorem rowsA_lit {H : Type} : (Rows.laid_hearsay_script_rows : DataW H) = .agg (rwA.map RoA.lit) := rfl
set_option maxRecDepth 100000 in
theorem rowA_of_trod {H : Type} {enc : TypeId × Value → H} {W : World} {base f0 : Nat} {spare : Nat → Bool} {held : Bool} {cs : List Value} {y : DataW H × List MemPlace} {r : RoA}
    (h : DataW.trod enc Tryd.prog W base spare held f0 55 cs = some y) (hy : y.1 = r.lit) : cs = r.cs := by
  obtain ⟨y0, y1, y2, n, rfl, hl, h0, h1, h2⟩ := Go.Deep.trod_struct3 Tryd.underlying55 h
  rw [Tryd.cellsRowA] at hl
  simp only [RoA.lit, DataW.agg.injEq, List.cons.injEq, and_true] at hy
  obtain ⟨e0, e1, e2⟩ := hy
  match cs, hl with
  | [v0, v1, v2, v3, v4], _ =>
    simp only [Tryd.cellsStr, Tryd.cellsIntA, Tryd.cellsOrdA, List.drop_zero, List.take_succ_cons, List.take_zero, List.drop_succ_cons] at h0 h1 h2
    obtain ⟨s, q0, q1, -⟩ := DataW.trod_string Tryd.underlying9 h0
    obtain ⟨k, q2, q3, -⟩ := DataW.trod_int Tryd.underlying3 h1
    obtain ⟨z0, z1, z2, m, rfl, g0, g1, g2⟩ := trod_array3 Tryd.underlying53 Tryd.cellsIntA h2
    obtain ⟨a, q4, q5, -⟩ := DataW.trod_int Tryd.underlying3 g0
    obtain ⟨b, q6, q7, -⟩ := DataW.trod_int Tryd.underlying3 g1
    obtain ⟨c, q8, q9, -⟩ := DataW.trod_int Tryd.underlying3 g2
    subst q1 q3 q5 q7 q9
    simp only [DataW.agg.injEq, List.cons.injEq, and_true, DataW.lit.injEq, Lit.string.injEq, Lit.int.injEq, true_and] at e0 e1 e2
    simp only [List.cons.injEq, and_true] at q0 q2 q4 q6 q8
    obtain ⟨e2, e3, e4⟩ := e2
    subst q0 q2 q4 q6 q8
    have : s = r.x := ByteArray.ext (Array.toList_inj.1 e0)
    rw [this, e1, e2, e3, e4]
    rfl
set_option maxRecDepth 100000 in
theorem tblA_of_trod {H : Type} {enc : TypeId × Value → H} {W : World} {base f0 : Nat} {spare : Nat → Bool} {held : Bool} {cs0 : List Value} {p0 : List MemPlace}
    (h : DataW.trod enc Tryd.prog W base spare held f0 83 cs0 = some (Rows.laid_hearsay_script_rows, p0)) : cs0 = rwA.flatMap RoA.cs := by
  obtain ⟨xs, m, -, hx, hl, hn, hel⟩ := DataW.trod_array Tryd.underlying83 h
  rw [rowsA_lit] at hx
  have hx1 : xs.map (·.1) = rwA.map RoA.lit := by
    have := congrArg Prod.fst hx
    simp only [DataW.agg.injEq] at this
    exact this.symm
  refine chunks_eq 24 5 (by decide) _ _ (by rw [hl, Tryd.cellsRowsA]) (fm_len RoA.cs 5 (fun _ => rfl) rwA) fun i hi => ?_
  rw [fm_at RoA.cs 5 (fun _ => rfl) zrA rwA i hi]
  have he := hel i hi
  rw [Tryd.cellsRowA, List.getElem?_eq_getElem (by omega)] at he
  refine rowA_of_trod he ?_
  have h2 : (xs.map (·.1))[i]? = (rwA.map RoA.lit)[i]? := by rw [hx1]
  rw [List.getElem?_map, List.getElem?_map, List.getElem?_eq_getElem (by omega), List.getElem?_eq_getElem (show i < rwA.length from hi)] at h2
  rw [List.getD_eq_getElem?_getD, List.getElem?_eq_getElem (show i < rwA.length from hi)]
  exact Option.some.inj h2
set_option maxRecDepth 100000 in
theorem tblA_of_laid {W : World} (h : laidMetH Tryd.prog [("hearsay/script.rows", Rows.laid_hearsay_script_rows)] W) : TblOk W := by
  rw [MakeChecks.laidMetH_plain _ _ _ (by kernel_rfl)] at h
  obtain ⟨ps, ⟨g0, t0, cs0, f0, p0, q0, hg0, ht0, hv0, hd0, _, _⟩, _, _⟩ := h
  obtain rfl := Option.some.inj (Tryd.gRowsA.symm.trans hg0)
  obtain rfl := Option.some.inj (Tryd.tRowsA.symm.trans ht0)
  have e : cs0 = tblV := by
    have := tblA_of_trod hd0
    unfold tblV
    rw [← this]
  subst e
  unfold World.var? at hv0
  rw [hg0] at hv0
  simp only [Option.bind_some] at hv0
  split at hv0
  · rename_i cs t fr he
    cases hv0
    exact ⟨t, fr, he⟩
  · cases hv0
def RoA.v (r : RoA) : Value := .agg #[.string r.x, .int .i64 r.k, .int .i64 r.a, .int .i64 r.b, .int .i64 r.c]
theorem tblV_at {i : Nat} (h : i < 24) : tblV.extract (i * 5) (i * 5 + 5) = #[.string (rwA.getD i zrA).x, .int .i64 (rwA.getD i zrA).k, .int .i64 (rwA.getD i zrA).a, .int .i64 (rwA.getD i zrA).b, .int .i64 (rwA.getD i zrA).c] := by
  apply Array.toList_inj.1
  rw [Array.toList_extract]
  have e := fm_at RoA.cs 5 (fun _ => rfl) zrA rwA i h
  simp only [List.extract_eq_take_drop]
  rw [show i * 5 + 5 - i * 5 = 5 by omega]
  exact e
theorem run_index_rowA (w : World) (i : Nat) (h : i < 24) : (Instr.index 83 (.agg tblV) (.int .i64 i)).run Tryd.prog w = .ok (rwA.getD i zrA).v w := by
  have hs : (sizeOf 55).run Tryd.prog w = .ok 5 w := by kernel_rfl
  have hp := tblV_at h
  simp [Instr.index, run_underlying Tryd.underlying83, asIntOf, go_sem, hs, part, hp, Sem.run_bind, RoA.v]
  omega
theorem Tryd.sizeRowsA : (Tryd.prog.info? 83).map (·.size) = some tblV.size := by kernel_rfl
end Go.Proofs.YtdfdnjkeiddfjaaDoor
