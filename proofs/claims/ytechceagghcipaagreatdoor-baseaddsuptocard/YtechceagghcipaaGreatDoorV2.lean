import Derived.Test.YtechceagghcipaaGreatDoorD2
namespace Go.Proofs.YtechceagghcipaaGreatDoor
open Go.RowKit

theorem Tryz.infoInt : (Tryz.prog.info? 3).map (fun i => (i.zero, i.size, i.bytes)) = some (some (.int .i64 0), 1, 8) := by kernel_rfl
def ics (l : List Int) : List Value := l.map (Value.int .i64)
theorem ics_snoc (l : List Int) (n : Int) : ics (l ++ [n]) = ics l ++ [.int .i64 n] := by simp [ics]
def OwnI (w : World) (base : Nat) (v : Value) (l : List Int) : Prop := w.ownsRow base 3 1 v l.length (ics l)
theorem ownI_cells {w : World} {base g cap n : Nat} {l : List Int} (h : OwnI w base (.slice (some ⟨g, 0, none⟩) n cap) l) (j : Nat) (d : Int) (hd : l[j]? = some d) :
  w.cell? ⟨g, j, none⟩ = some (.int .i64 d) := by
 rcases h.2 with ⟨h, _⟩ | ⟨g', cap', cur, hv, hb, hg, hn, hc, hs, ht⟩
 ·cases h
 ·simp only [Value.slice.injEq, Option.some.injEq, Addr.mk.injEq] at hv
  obtain ⟨⟨rfl, -⟩, -, rfl⟩ := hv
  have hj := (List.getElem?_eq_some_iff.1 hd).1
  have e : (ics l)[j]? = some (.int .i64 d) := by simp [ics, hd]
  rw [cell_of_row _ _ _ _ _ _ hg, <- e, <- ht, List.getElem?_take_of_lt (by omega)]
  simp
theorem OwnI.lt {w : World} {base : Nat} {v : Value} {l : List Int} (h : OwnI w base v l) : ∀ k, v.ownBlock = some k -> base <= k /\ k < w.heap.size := World.ownsRow.lt h
theorem OwnI.mono {w : World} {b b' : Nat} {v : Value} {l : List Int} (h : OwnI w b v l) (hb : b' <= b) : OwnI w b' v l := by
 refine ⟨h.1, ?_⟩
 rcases h.2 with hn | ⟨g, cap, cur, hv, hbb, rest⟩
 ·exact Or.inl hn
 ·exact Or.inr ⟨g, cap, cur, hv, Nat.le_trans hb hbb, rest⟩
theorem OwnI.later {w w' : World} {base : Nat} {v : Value} {l : List Int} (h : OwnI w base v l) (hb : Below w.heap.size w w') : OwnI w' base v l := by
 refine ⟨h.1, ?_⟩
 rcases h.2 with hn | ⟨g, cap, cur, hv, hbb, hg, rest⟩
 ·exact Or.inl hn
 ·exact Or.inr ⟨g, cap, cur, hv, hbb, (hb.block _ (Array.getElem?_eq_some_iff.1 hg).1).trans hg, rest⟩
theorem ownI_nil (w : World) (base : Nat) : OwnI w base (.slice none 0 0) [] := World.ownsRow_nil _ _ _ _
theorem ownI_form {w : World} {base : Nat} {v : Value} {l : List Int} (h : OwnI w base v l) (hn : 0 < l.length) :
  ∃ g cap, v = .slice (some ⟨g, 0, none⟩) l.length cap /\ base <= g /\ g < w.heap.size := World.ownsRow.form h hn
theorem ownI_len {w : World} {base : Nat} {v : Value} {l : List Int} (h : OwnI w base v l) : ∃ a cap, v = .slice a l.length cap := by
 rcases h.2 with ⟨rfl, hn⟩ | ⟨g, cap, cur, hv, -⟩
 ·exact ⟨none, 0, by rw [hn]⟩
 ·exact ⟨_, cap, hv⟩
def vS (l : List Int) (t : Tm) : List Int := if t.var then (if l.any (fun n => decide (n = t.n)) then l else l ++ [t.n]) else l
def vs (pl : List Tm) : List Int := pl.foldl vS []
theorem vs_take (s : List Tm) (k : Nat) (d : Tm) (h : s[k]? = some d) : vs (s.take (k + 1)) = vS (vs (s.take k)) d := by
 obtain ⟨hk, rfl⟩ := List.getElem?_eq_some_iff.1 h
 rw [List.take_succ_eq_append_getElem hk, vs, List.foldl_append]; rfl
theorem vS_len (l : List Int) (d : Tm) : (vS l d).length <= l.length + 1 := by
 unfold vS; split
 ·split <;> simp
 ·simp
theorem vs_len (s : List Tm) : (vs s).length <= s.length := by
 have : ∀ s l, (List.foldl vS l s).length <= l.length + s.length := by
  intro s
  induction s with
  | nil => intro l; simp
  | cons d s ih => intro l; have := ih (vS l d); have := vS_len l d; simp only [List.foldl_cons, List.length_cons]; omega
 have := this s []
 simpa [vs] using this
def hasI (l : List Int) (x : Int) : Bool := l.any fun n => decide (n = x)
theorem hasI_no (l : List Int) (x : Int) (j : Nat) (d : Int) (h : l[j]? = some d) (hn : hasI (l.take j) x = false) (hd : ¬ d = x) : hasI (l.take (j + 1)) x = false := by
 obtain ⟨hk, rfl⟩ := List.getElem?_eq_some_iff.1 h
 rw [List.take_succ_eq_append_getElem hk, hasI, List.any_append]
 rw [hasI] at hn
 rw [hn]; simpa using hd
theorem hasI_yes (l : List Int) (x : Int) (j : Nat) (d : Int) (h : l[j]? = some d) (hd : d = x) : hasI l x = true := by
 obtain ⟨hk, rfl⟩ := List.getElem?_eq_some_iff.1 h
 simp only [hasI, List.any_eq_true, decide_eq_true_eq]; exact ⟨_, List.getElem_mem hk, hd⟩
theorem vS_old (l : List Int) (d : Tm) (hv : d.var = true) (h : hasI l d.n = true) : vS l d = l := by
 unfold hasI at h; unfold vS; rw [if_pos hv, if_pos h]
theorem vS_new (l : List Int) (d : Tm) (hv : d.var = true) (h : hasI l d.n = false) : vS l d = l ++ [d.n] := by
 unfold hasI at h; unfold vS; rw [if_pos hv, if_neg (by simp [h])]
theorem vS_not (l : List Int) (d : Tm) (hv : d.var = false) : vS l d = l := by
 unfold vS; rw [hv]; rfl
end Go.Proofs.YtechceagghcipaaGreatDoor
