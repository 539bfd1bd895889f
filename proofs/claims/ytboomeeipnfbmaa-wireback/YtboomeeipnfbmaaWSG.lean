/-
  wire: a Turn opened.
-/
import Derived.Test.YtboomeeipnfbmaaWRJ
namespace Go.Proofs.Ytboomeeipnfbmaa
open Go.ChangeShapes Go.WideShapes Go.ChangeAt Go.RowKit Go.Joins Go.Deep

theorem Try.cellsTurnW : Try.prog.cellsOf 53 = 5 := by kernel_rfl
theorem Try.cellsOpsW : Try.prog.cellsOf 38 = 1 := by kernel_rfl
set_option maxRecDepth 100000 in
theorem open_turnW {H : Type} {enc : TypeId × Value → H} {W : World} {r : Reach} {b0 base : Nat} {spare : Nat → Bool} {held : Bool} {v : Value} {d : DataW H} {p : List MemPlace}
    (hv : Value.okWide Try.prog W r b0 53 v) (h : DataW.Trod enc Try.prog W base spare held 53 v d p) (hw : ∀ n ∈ d.weights Try.prog 53, n ≤ reachBytes) :
    ∃ (L : List (OvW × Value)) (sv : Value) (n m a q : Int), v = .agg #[sv, .int .i64 n, .int .i64 m, .int .i64 a, .int .i64 q] ∧ ScW (fun b => b < W.heap.size) W sv L := by
  obtain ⟨cs, rfl, hsz⟩ := okWide_struct Try.underlying53 hv
  rw [Try.cellsTurnW] at hsz
  obtain ⟨fuel, hf0⟩ := h
  obtain ⟨l⟩ := cs
  obtain ⟨xs, n, e0, hd, hl, hlen, hf⟩ := DataW.trod_struct Try.underlying53 hf0
  simp only [Prod.mk.injEq] at hd
  have hd := hd.1
  subst hd
  have hsz5 : l.length = 5 := by simpa using hsz
  match xs, hlen with
  | [y0, y1, y2, y3, y4], _ =>
    match l, hsz5 with
    | [c0, c1, c2, c3, c4], _ =>
      have h0 := hf 0 _ rfl
      have h1 := hf 1 _ rfl
      have h2 := hf 2 _ rfl
      have h3 := hf 3 _ rfl
      have h4 := hf 4 _ rfl
      simp [Try.cellsIntW, Try.cellsOpsW, Value.cells] at h0 h1 h2 h3 h4
      obtain ⟨sv, L, e0, hs⟩ := open_opsW h0 (fun m hm => hw m (by
        simp only [List.map]
        rw [DataW.weights, Try.underlying53]
        exact DataW.weights_mem_each (j := 0) rfl rfl m hm))
      obtain ⟨k1, e1, -, -⟩ := DataW.trod_int Try.underlying3 h1
      obtain ⟨k2, e2, -, -⟩ := DataW.trod_int Try.underlying3 h2
      obtain ⟨k3, e3, -, -⟩ := DataW.trod_int Try.underlying3 h3
      obtain ⟨k4, e4, -, -⟩ := DataW.trod_int Try.underlying3 h4
      simp at e0 e1 e2 e3 e4
      subst e0 e1 e2 e3 e4
      exact ⟨L, _, k1, k2, k3, k4, rfl, hs⟩
end Go.Proofs.Ytboomeeipnfbmaa
