/-
  A token's and a fault's boxes; wordOrSays, signKind, signAt.
-/
import Derived.Test.YtdfdnjkeiddfjaaDoorK3
namespace Go.Proofs.YtdfdnjkeiddfjaaDoor
open Go.RowKit

/-- Block g holds these cells. -/
def BlkK (W : World) (g : Nat) (c : Array Value) (t : TypeId) : Prop := W.heap[g]? = some (.cells c t (0, 0))
theorem BlkK.lt {W : World} {g : Nat} {c : Array Value} {t : TypeId} (h : BlkK W g c t) : g < W.heap.size := (Array.getElem?_eq_some_iff.1 h).1
theorem BlkK.later {W W' : World} {g : Nat} {c : Array Value} {t : TypeId} (h : BlkK W g c t) (hb : Below W.heap.size W W') : BlkK W' g c t := (hb.block _ h.lt).trans h
theorem BlkK.new (W : World) (c : Array Value) (t : TypeId) : BlkK (W.alloc (.cells c t)) W.heap.size c t := heap_alloc_new _ _
theorem BlkK.old (W : World) (c : Array Value) (t : TypeId) (o : Obj) : BlkK ((W.alloc (.cells c t)).alloc o) W.heap.size c t := (BlkK.new W c t).later (below1K _ _)
theorem BlkK.new2 (W : World) (c : Array Value) (t : TypeId) (o : Obj) : BlkK ((W.alloc o).alloc (.cells c t)) (W.heap.size + 1) c t := by
  have h := BlkK.new (W.alloc o) c t
  rwa [show (W.alloc o).heap.size = W.heap.size + 1 by simp] at h
theorem below2K (w : World) (o p : Obj) : Below w.heap.size w ((w.alloc o).alloc p) := (below1K w o).alloc (by simp) _
theorem below_stepK {W w' w3 : World} (h : Below W.heap.size W w') (h3 : Below w'.heap.size w' w3) : Below W.heap.size W w3 := h.trans (h3.mono h.size)
theorem fiveK {w : World} {g : Nat} {a b c d e : Value} {t : TypeId} (h : BlkK w g #[a, b, c, d, e] t) :
    w.cell? ⟨g, 0, none⟩ = some a ∧ w.cell? ⟨g, 1, none⟩ = some b ∧ w.cell? ⟨g, 2, none⟩ = some c ∧ w.cell? ⟨g, 3, none⟩ = some d ∧ w.cell? ⟨g, 4, none⟩ = some e :=
  ⟨cell_of_row _ _ _ _ _ _ h, cell_of_row _ _ _ _ _ _ h, cell_of_row _ _ _ _ _ _ h, cell_of_row _ _ _ _ _ _ h, cell_of_row _ _ _ _ _ _ h⟩
theorem fiveFK {w : World} {g : Nat} {a b c d e : Value} {t : TypeId} (h : BlkK w g #[a, b, c, d, e] t) :
    w.frozen? ⟨g, 0, none⟩ = false ∧ w.frozen? ⟨g, 1, none⟩ = false ∧ w.frozen? ⟨g, 2, none⟩ = false ∧ w.frozen? ⟨g, 3, none⟩ = false ∧ w.frozen? ⟨g, 4, none⟩ = false :=
  ⟨frozen_of_row _ _ _ _ _ h, frozen_of_row _ _ _ _ _ h, frozen_of_row _ _ _ _ _ h, frozen_of_row _ _ _ _ _ h, frozen_of_row _ _ _ _ _ h⟩
theorem two {w : World} {g : Nat} {a b : Value} {t : TypeId} (h : BlkK w g #[a, b] t) :
    w.cell? ⟨g, 0, none⟩ = some a ∧ w.cell? ⟨g, 1, none⟩ = some b ∧ w.frozen? ⟨g, 0, none⟩ = false ∧ w.frozen? ⟨g, 1, none⟩ = false :=
  ⟨cell_of_row _ _ _ _ _ _ h, cell_of_row _ _ _ _ _ _ h, frozen_of_row _ _ _ _ _ h, frozen_of_row _ _ _ _ _ h⟩
theorem store5K {W : World} {G : Nat} {a b c d e a' b' c' d' e' : Value} {t : TypeId} (h : BlkK W G #[a, b, c, d, e] t) :
    BlkK (((((W.setCell ⟨G, 0, none⟩ a').setCell ⟨G, 1, none⟩ b').setCell ⟨G, 2, none⟩ c').setCell ⟨G, 3, none⟩ d').setCell ⟨G, 4, none⟩ e') G #[a', b', c', d', e'] t := by
  have h1 := heap_setCell_same _ _ 0 _ _ a' h
  have h2 := heap_setCell_same _ _ 1 _ _ b' h1
  have h3 := heap_setCell_same _ _ 2 _ _ c' h2
  have h4 := heap_setCell_same _ _ 3 _ _ d' h3
  exact heap_setCell_same _ _ 4 _ _ e' h4
theorem store2 {W : World} {G : Nat} {a b a' b' : Value} {t : TypeId} (h : BlkK W G #[a, b] t) :
    BlkK ((W.setCell ⟨G, 0, none⟩ a').setCell ⟨G, 1, none⟩ b') G #[a', b'] t := by
  have h1 := heap_setCell_same _ _ 0 _ _ a' h
  exact heap_setCell_same _ _ 1 _ _ b' h1
theorem BlkK.other {W : World} {k G i : Nat} {c : Array Value} {t : TypeId} {a : Value} (h : BlkK W k c t) (hk : k ≠ G) : BlkK (W.setCell ⟨G, i, none⟩ a) k c t := by
  unfold BlkK; rw [heap_setCell_other _ _ _ _ hk]; exact h
/-- A token's box and a fault's box, written. -/
abbrev fw (W : World) (g h : Nat) (t : Tk) (e p : Int) : World :=
  ((((((W.setCell ⟨g, 0, none⟩ (.int .i64 t.k)).setCell ⟨g, 1, none⟩ (.string t.x)).setCell ⟨g, 2, none⟩ (.int .i64 t.n)).setCell ⟨g, 3, none⟩ (.int .i64 t.a)).setCell ⟨g, 4, none⟩ (.int .i64 t.e)).setCell ⟨h, 0, none⟩ (.int .i64 e)).setCell ⟨h, 1, none⟩ (.int .i64 p)
abbrev Tk.cs (t : Tk) : Array Value := #[.int .i64 t.k, .string t.x, .int .i64 t.n, .int .i64 t.a, .int .i64 t.e]
abbrev fcs (e p : Int) : Array Value := #[.int .i64 e, .int .i64 p]
theorem fw_blk {W : World} {g h : Nat} {t0 : Tk} {e0 p0 : Int} (t : Tk) (e p : Int) (hg : BlkK W g t0.cs 43) (hh : BlkK W h (fcs e0 p0) 27) (ne : g ≠ h) :
    BlkK (fw W g h t e p) g t.cs 43 ∧ BlkK (fw W g h t e p) h (fcs e p) 27 :=
  ⟨((store5K hg).other ne).other ne, store2 (((((hh.other ne.symm).other ne.symm).other ne.symm).other ne.symm).other ne.symm)⟩
theorem fw_below {w W : World} {B g h : Nat} {t : Tk} {e p : Int} (hb : Below B w W) (hg : B ≤ g) (hh : B ≤ h) : Below B w (fw W g h t e p) :=
  ((((((hb.setCell hg _).setCell hg _).setCell hg _).setCell hg _).setCell hg _).setCell hh _).setCell hh _
theorem ret_tf {fn : Func} (hf : fn.results = #[.cell 4 43, .cell 5 27]) (tmps : Array Value) (w : World) (g h : Nat) (t : Tk) (e p : Int)
    (h4 : tmps[4]?.getD undef = .pointer (some ⟨g, 0, none⟩)) (h5 : tmps[5]?.getD undef = .pointer (some ⟨h, 0, none⟩)) (hg : BlkK w g t.cs 43) (hh : BlkK w h (fcs e p) 27) :
    (results fn tmps).run Tryd.prog w = .ok (.tuple #[t.v, .agg #[.int .i64 e, .int .i64 p]]) w := by
  obtain ⟨a0, a1, a2, a3, a4⟩ := fiveK hg
  obtain ⟨b0, b1, -, -⟩ := two hh
  simp [results, hf, h4, h5, go_sem, a0, a1, a2, a3, a4, b0, b1]
/-- What wordOrSays answers. -/
def wos (x : ByteArray) (j : Nat) : Tk := if x = saysB then ⟨5, ⟨#[]⟩, 0, j, (j + x.size : Nat)⟩ else ⟨1, x, 0, j, (j + x.size : Nat)⟩
theorem wordOrSays_any (x : ByteArray) (j : Nat) (hx : x.size < 2000000000000000000) (hj : j < 2000000000000000000) (w : World) (hS : SaysOk w) :
    Calls Tryd.prog 37 #[.string x, .int .i64 j] w fun e w' => e = .returned (wos x j).v ∧ Below w.heap.size w w' := by
  have hlt : 1 < w.heap.size := World.block_lt_of_cell? w _ hS
  have c1 : (w.alloc (.cells #[.int .i64 0, .string ⟨#[]⟩, .int .i64 0, .int .i64 0, .int .i64 0] 43)).cell? ⟨1, 5, none⟩ = some (.string ⟨#[115, 97, 121, 115]⟩) := by
    rw [(below1K w _).cell (p := ⟨1, 5, none⟩) hlt]; exact hS
  have e2 : decide (x = saysB) = decide (x.toList = [115, 97, 121, 115]) := by unfold saysB; rw [← str_dec, saysL]; exact (Bool.beq_eq_decide_eq _ _)
  have B1 := BlkK.new w #[.int .i64 0, .string ⟨#[]⟩, .int .i64 0, .int .i64 0, .int .i64 0] 43
  have hb1 := below1K w (.cells #[.int .i64 0, .string ⟨#[]⟩, .int .i64 0, .int .i64 0, .int .i64 0] 43)
  by_cases h : x = saysB
  · have E : wos x j = ⟨5, ⟨#[]⟩, 0, j, (j + x.size : Nat)⟩ := if_pos h
    rw [decide_eq_true h] at e2
    have z2 := e2.symm
    simp only [decide_eq_true_eq] at z2
    rw [E]
    clear E h e2
    go_enter Tryd.func37, Tryd.ntmps37
    go_upto_region 1 with fail
    revert c1 B1 hb1
    generalize w.alloc (.cells #[.int .i64 0, .string ⟨#[]⟩, .int .i64 0, .int .i64 0, .int .i64 0] 43) = W1
    intro c1 B1 hb1
    obtain ⟨d0, d1, d2, d3, d4⟩ := fiveK B1
    obtain ⟨f0, f1, f2, f3, f4⟩ := fiveFK B1
    have HB : Hid (BlkK W1 w.heap.size _ 43) := B1
    have HW : Hid (Below w.heap.size w W1) := hb1
    clear B1 hb1
    go_wp2
    obtain ⟨p0, p1, p2, p3, p4⟩ := fiveK (store5K (a' := .int .i64 5) (b' := .string ⟨#[]⟩) (c' := .int .i64 0) (d' := .int .i64 j) (e' := .int .i64 (j + x.size)) HB.out)
    exact bodyPost_ret (v := Tk.v ⟨5, ⟨#[]⟩, 0, j, (j + x.size : Nat)⟩) (by simp [results, Tryd.results37, go_sem, p0, p1, p2, p3, p4]) rfl ⟨rfl, ((((HW.out.setCell (Nat.le_refl _) _).setCell (Nat.le_refl _) _).setCell (Nat.le_refl _) _).setCell (Nat.le_refl _) _).setCell (Nat.le_refl _) _⟩
  · have E : wos x j = ⟨1, x, 0, j, (j + x.size : Nat)⟩ := if_neg h
    rw [decide_eq_false h] at e2
    have z2 := e2.symm
    simp only [decide_eq_false_iff_not] at z2
    have z3 : (x.toList == [115, 97, 121, 115]) = false := beq_eq_false_iff_ne.2 z2
    rw [E]
    clear E h e2
    go_enter Tryd.func37, Tryd.ntmps37
    go_upto_region 1 with fail
    revert c1 B1 hb1
    generalize w.alloc (.cells #[.int .i64 0, .string ⟨#[]⟩, .int .i64 0, .int .i64 0, .int .i64 0] 43) = W1
    intro c1 B1 hb1
    obtain ⟨d0, d1, d2, d3, d4⟩ := fiveK B1
    obtain ⟨f0, f1, f2, f3, f4⟩ := fiveFK B1
    have HB : Hid (BlkK W1 w.heap.size _ 43) := B1
    have HW : Hid (Below w.heap.size w W1) := hb1
    clear B1 hb1
    go_wp2
    obtain ⟨p0, p1, p2, p3, p4⟩ := fiveK (store5K (a' := .int .i64 1) (b' := .string x) (c' := .int .i64 0) (d' := .int .i64 j) (e' := .int .i64 (j + x.size)) HB.out)
    exact bodyPost_ret (v := Tk.v ⟨1, x, 0, j, (j + x.size : Nat)⟩) (by simp [results, Tryd.results37, go_sem, p0, p1, p2, p3, p4]) rfl ⟨rfl, ((((HW.out.setCell (Nat.le_refl _) _).setCell (Nat.le_refl _) _).setCell (Nat.le_refl _) _).setCell (Nat.le_refl _) _).setCell (Nat.le_refl _) _⟩
theorem signL_len : signL.length = 17 := rfl
theorem skG_drop (i : Nat) (t x : ByteArray) (h : signL[i]? = some t) : skG i (signL.drop i) x = if t = x then i else skG (i + 1) (signL.drop (i + 1)) x := by
  have hl := (List.getElem?_eq_some_iff.1 h).1
  rw [List.drop_eq_getElem_cons hl]
  have e : signL[i] = t := (List.getElem?_eq_some_iff.1 h).2
  rw [e]; rfl
theorem run_index_sign (w : World) (i : Nat) (t : ByteArray) (h : signL[i]? = some t) : (Instr.index 102 (.agg signV) (.int .i64 i)).run Tryd.prog w = .ok (.string t) w := by
  have hi : i < 17 := by have := (List.getElem?_eq_some_iff.1 h).1; simpa [signL] using this
  have hs : (sizeOf 9).run Tryd.prog w = .ok 1 w := by kernel_rfl
  have hp : signV[i]? = some (.string t) := by unfold signV; simp [h]
  simp [Instr.index, run_underlying Tryd.underlying102, asIntOf, go_sem, hs, part, hp, Sem.run_bind]
  omega
theorem Tryd.sizeSigns : (Tryd.prog.info? 102).map (·.size) = some signV.size := by kernel_rfl
theorem signKind_any (x : ByteArray) (w : World) (hS : SignsOk w) :
    Calls Tryd.prog 66 #[.string x] w fun e w' => e = .returned (.int .i64 (sk x : Nat)) ∧ w' = w := by
  obtain ⟨t0, fr, hrow⟩ := hS.1
  have HI : Hid (∀ (W : World) (i : Nat) (t : ByteArray), signL[i]? = some t → (Instr.index 102 (.agg signV) (.int .i64 i)).run Tryd.prog W = .ok (.string t) W) := fun W i t h => run_index_sign W i t h
  obtain ⟨R, hR⟩ : ∃ R, sk x = R := ⟨_, rfl⟩
  have HR0 : Hid (skG 0 (signL.drop 0) x = R) := hR
  rw [hR]
  clear hR
  go_enter Tryd.func66, Tryd.ntmps66
  go_wp2_with (refine wpList_load_row rfl 102 (.global 1) rfl 1 rfl t0 signV fr _ hrow Tryd.underlying102 rfl Tryd.sizeSigns ?_)
  generalize hV : (Value.agg signV) = V at HI ⊢
  clear hV
  go_loopg [6] 17 (fun g i wr => ∃ j : Nat, j + g = 17 ∧ i = .int .i64 j ∧ skG j (signL.drop j) x = R ∧ wr = w)
  case atStart => exact ⟨0, by omega, rfl, HR0.out, rfl⟩
  case round =>
    obtain ⟨j, hj, rfl, hr, rfl⟩ := hrel
    have HR : Hid (skG j (signL.drop j) x = R) := hr
    clear hr HR0
    cases gk with
    | succ g =>
      have hlt : j < 17 := by omega
      have i1 : (j : Int) < 17 := by omega
      obtain ⟨t, ht⟩ : ∃ t, signL[j]? = some t := ⟨_, List.getElem?_eq_getElem (by rw [signL_len]; exact hlt)⟩
      have hidx := fun W => HI.out W j t ht
      have HS : Hid (skG j (signL.drop j) x = if t = x then j else skG (j + 1) (signL.drop (j + 1)) x) := skG_drop j t x ht
      have e1 := str_dec t x
      clear ht HI
      by_cases hq : t = x
      · have HQ : Hid (j = R) := by show j = R; rw [← HR.out, HS.out, if_pos hq]
        rw [decide_eq_true hq] at e1
        clear hq
        go_wp2
        go_ret
        exact ⟨by rw [← HQ.out]; rfl, rfl⟩
      · have HQ : Hid (skG (j + 1) (signL.drop (j + 1)) x = R) := by show _ = R; rw [← HR.out, HS.out, if_neg hq]
        rw [decide_eq_false hq] at e1
        clear hq
        go_wp2
        go_roundg g
        case measure => omega
        case rel => exact ⟨j + 1, by omega, by go_num, HQ.out, rfl⟩
    | zero =>
      obtain rfl : j = 17 := by omega
      clear HI
      go_wp2
      go_ret
      exact ⟨by rw [← HR.out]; rfl, rfl⟩
end Go.Proofs.YtdfdnjkeiddfjaaDoor
