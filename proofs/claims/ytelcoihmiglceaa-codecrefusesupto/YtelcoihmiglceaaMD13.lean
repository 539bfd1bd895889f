/-
  Made: what it does to its clause.
-/
import Derived.Test.YtelcoihmiglceaaMD12
namespace Go.Proofs.Ytelcoihmiglceaa
open Go.RowKit

theorem tcs_set : ∀ (l : List Tm) (j : Nat) (t : Tm), j < l.length → tcs (l.set j t) = (((tcs l).set (j * 3) (.int .i64 t.k)).set (j * 3 + 1) (.int .i64 t.n)).set (j * 3 + 2) (.string t.s)
  | a :: l, 0, t, _ => by simp [tcs, Tm.cs]
  | a :: l, j + 1, t, h => by
    have ih := tcs_set l j t (by simpa using h)
    have e : ∀ m : List Tm, tcs (a :: m) = a.cs ++ tcs m := fun m => by simp [tcs]
    have hc : a.cs.length = 3 := rfl
    rw [List.set_cons_succ, e, e, ih, List.set_append_right _ _ (by omega), List.set_append_right _ _ (by omega), List.set_append_right _ _ (by omega), hc]
    rw [show (j + 1) * 3 - 3 = j * 3 by omega, show (j + 1) * 3 + 1 - 3 = j * 3 + 1 by omega, show (j + 1) * 3 + 2 - 3 = j * 3 + 2 by omega]
abbrev Tput (X : World) (g j : Nat) (t : Tm) : World := ((X.setCell ⟨g, j * 3, none⟩ (.int .i64 t.k)).setCell ⟨g, j * 3 + 1, none⟩ (.int .i64 t.n)).setCell ⟨g, j * 3 + 2, none⟩ (.string t.s)
theorem OwnT.put {X : World} {base g n cap j : Nat} {L : List Tm} (h : OwnT X base (.slice (some ⟨g, 0, none⟩) n cap) L) (hj : j < L.length) (t : Tm) : OwnT (Tput X g j t) base (.slice (some ⟨g, 0, none⟩) n cap) (L.set j t) := by
  have hlen := h.1
  rcases h.2 with ⟨h, _⟩ | ⟨g', cap', cur, hv, hb, hg, hn, hc, hs, ht⟩
  · cases h
  · simp only [Value.slice.injEq, Option.some.injEq, Addr.mk.injEq] at hv
    obtain ⟨⟨rfl, -⟩, rfl, rfl⟩ := hv
    have k1 := heap_setCell_same _ _ (j * 3) _ _ (.int .i64 t.k) hg
    have k2 := heap_setCell_same _ _ (j * 3 + 1) _ _ (.int .i64 t.n) k1
    have k3 := heap_setCell_same _ _ (j * 3 + 2) _ _ (.string t.s) k2
    refine ⟨by rw [tcs_len, List.length_set], Or.inr ⟨g, cap, _, by rw [List.length_set], hb, k3, by rw [List.length_set]; exact hn, hc, by simpa using hs, ?_⟩⟩
    rw [List.length_set, tcs_set L j t hj, ← ht]
    simp [List.take_set]
theorem OwnT.some {X : World} {base : Nat} {v : Value} {L : List Tm} (h : OwnT X base v L) (hL : 0 < L.length) : ∃ g cap, v = .slice (some ⟨g, 0, none⟩) L.length cap := by
  rcases h.2 with ⟨_, hn⟩ | ⟨g', cap', cur, hv, -⟩
  · omega
  · exact ⟨g', cap', hv⟩
abbrev zH : At × Value := (⟨zt, ⟨#[]⟩, []⟩, .slice none 0 0)
theorem U0.us {w X : World} {o : Array Value} (H : U0 w X o) : US w X o zH (.slice none 0 0) [] (.slice none 0 0) [] :=
  ⟨H.bc, H.br, H.bo, ownT_nil _ _, OwnA.nil _ _, fun x hx => by simp at hx, OwnE.nil _ _, fun k hk => by simp [Value.ownBlock] at hk, fun k hk => by simp [Value.ownBlock] at hk, H.bw, H.sz⟩
/-- Another head. -/
theorem US.head {w X : World} {o : Array Value} {h0 : At × Value} {bu : Value} {LB : List (At × Value)} {tu : Value} {LT : List Te} (H : US w X o h0 bu LB tu LT) (h : At × Value) (hh : OwnT X (w.heap.size + 3) h.2 h.1.args)
    (n1 : ∀ k, bu.ownBlock = some k → h.2.ownBlock ≠ some k) (n2 : ∀ k, tu.ownBlock = some k → h.2.ownBlock ≠ some k) : US w (Hput X (w.heap.size + 1 + 1) h) o h bu LB tu LT := by
  have m1 : w.heap.size ≠ w.heap.size + 1 + 1 := by omega
  have m2 : w.heap.size + 1 ≠ w.heap.size + 1 + 1 := by omega
  have n3 : w.heap.size + 1 + 1 < w.heap.size + 3 := by omega
  have n4 : w.heap.size ≤ w.heap.size + 1 + 1 := by omega
  refine ⟨((((H.bc.off m1).off m1).off m1).off m1).off m1, ((((H.br.off m2).off m2).off m2).off m2).off m2, ?_, ((((hh.set n3).set n3).set n3).set n3).set n3, ((((H.ba.set n3).set n3).set n3).set n3).set n3, fun x hx => (((((H.bt x hx).set n3).set n3).set n3).set n3).set n3, ((((H.et.set n3).set n3).set n3).set n3).set n3,
    fun k hk => ⟨n1 k hk, (H.s1 k hk).2⟩, fun k hk => ⟨n2 k hk, (H.s2 k hk).2⟩, ((((H.bw.setCell n4 _).setCell n4 _).setCell n4 _).setCell n4 _).setCell n4 _, by simpa [World.setCell] using H.sz⟩
  have := ((((H.bo.set 0 (.int .i64 h.1.by_.k)).set 1 (.int .i64 h.1.by_.n)).set 2 (.string h.1.by_.s)).set 3 (.string h.1.name)).set 4 h.2
  simpa using this
/-- The head without its qualifier. -/
theorem US.by0 {w X : World} {o : Array Value} {h : At × Value} {bu : Value} {LB : List (At × Value)} {tu : Value} {LT : List Te} (H : US w X o h bu LB tu LT) :
    US w (((X.setCell ⟨w.heap.size + 1 + 1, 0, none⟩ (.int .i64 0)).setCell ⟨w.heap.size + 1 + 1, 1, none⟩ (.int .i64 0)).setCell ⟨w.heap.size + 1 + 1, 2, none⟩ (.string ⟨#[]⟩)) o (⟨zt, h.1.name, h.1.args⟩, h.2) bu LB tu LT := by
  have m1 : w.heap.size ≠ w.heap.size + 1 + 1 := by omega
  have m2 : w.heap.size + 1 ≠ w.heap.size + 1 + 1 := by omega
  have n3 : w.heap.size + 1 + 1 < w.heap.size + 3 := by omega
  have n4 : w.heap.size ≤ w.heap.size + 1 + 1 := by omega
  refine ⟨((H.bc.off m1).off m1).off m1, ((H.br.off m2).off m2).off m2, ?_, ((H.hw.set n3).set n3).set n3, ((H.ba.set n3).set n3).set n3, fun x hx => (((H.bt x hx).set n3).set n3).set n3, ((H.et.set n3).set n3).set n3, H.s1, H.s2, ((H.bw.setCell n4 _).setCell n4 _).setCell n4 _, by simpa [World.setCell] using H.sz⟩
  have := ((H.bo.set 0 (.int .i64 0)).set 1 (.int .i64 0)).set 2 (.string ⟨#[]⟩)
  simpa [zt] using this
/-- One argument of the head. -/
theorem US.arg {w X : World} {o : Array Value} {b : Tm} {nm : ByteArray} {L : List Tm} {g n cap : Nat} {bu : Value} {LB : List (At × Value)} {tu : Value} {LT : List Te} (H : US w X o (⟨b, nm, L⟩, .slice (some ⟨g, 0, none⟩) n cap) bu LB tu LT)
    (hsep : ∀ x ∈ LB, x.2.ownBlock ≠ some g) {j : Nat} (hj : j < L.length) (t : Tm) : US w (Tput X g j t) o (⟨b, nm, L.set j t⟩, .slice (some ⟨g, 0, none⟩) n cap) bu LB tu LT := by
  have hg := (H.hw.lt g rfl).1
  have n1 : ∀ k, bu.ownBlock = some k → k ≠ g := fun k hk e => (H.s1 k hk).1 (by rw [e]; rfl)
  have n2 : ∀ k, tu.ownBlock = some k → k ≠ g := fun k hk e => (H.s2 k hk).1 (by rw [e]; rfl)
  have n3 : ∀ x ∈ LB, ∀ k, x.2.ownBlock = some k → k ≠ g := fun x hx k hk e => hsep x hx (by rw [hk, e])
  refine ⟨((H.bc.off (by omega)).off (by omega)).off (by omega), ((H.br.off (by omega)).off (by omega)).off (by omega), ((H.bo.off (by omega)).off (by omega)).off (by omega), H.hw.put hj t, ((H.ba.off n1).off n1).off n1, fun x hx => (((H.bt x hx).off (n3 x hx)).off (n3 x hx)).off (n3 x hx), ((H.et.off n2).off n2).off n2, H.s1, H.s2,
    ((H.bw.setCell (show w.heap.size ≤ g by omega) _).setCell (show w.heap.size ≤ g by omega) _).setCell (show w.heap.size ≤ g by omega) _, by simpa [World.setCell] using H.sz⟩
theorem mix_step {L : List Tm} {g : Tm → Tm} {j : Nat} {t : Tm} (h : L[j]? = some t) : ((L.take j).map g ++ L.drop j).set j (g t) = (L.take (j + 1)).map g ++ L.drop (j + 1) ∧ ((L.take j).map g ++ L.drop j)[j]? = some t := by
  obtain ⟨hj, e⟩ := List.getElem?_eq_some_iff.1 h
  have e0 := List.drop_eq_getElem_cons hj
  rw [e] at e0
  have hl : ((L.take j).map g).length = j := by rw [List.length_map, List.length_take]; omega
  rw [e0]
  constructor
  · rw [List.set_append_right _ _ (by omega), hl, Nat.sub_self, List.set_cons_zero, List.take_add_one, h]; simp
  · rw [List.getElem?_append_right (by omega), hl, Nat.sub_self]; rfl
end Go.Proofs.Ytelcoihmiglceaa
