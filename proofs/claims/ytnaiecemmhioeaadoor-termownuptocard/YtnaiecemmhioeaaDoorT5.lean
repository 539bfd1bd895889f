/-
  lend, still of the laws.
-/
import Derived.Test.YtnaiecemmhioeaaDoorT3
import Derived.Laws.AppendOwnNone
import Derived.Laws.AppendOwn
namespace Go.Proofs.YtnaiecemmhioeaaDoor
open Go.RowKit

/-- The mark behind a binding. -/
def late : Bd := ⟨902, ⟨3, 903, ⟨#[108, 97, 116, 101]⟩⟩⟩
/-- The variable late holds what its text says. -/
def LateOk (w : World) : Prop := 1 < w.heap.size ∧ w.cell? ⟨1, 0, none⟩ = some (.int .i64 902) ∧ w.cell? ⟨1, 1, none⟩ = some (.int .i64 3) ∧ w.cell? ⟨1, 2, none⟩ = some (.int .i64 903) ∧ w.cell? ⟨1, 3, none⟩ = some (.string ⟨#[108, 97, 116, 101]⟩)
theorem LateOk.later {w w' : World} (h : LateOk w) (hb : Below w.heap.size w w') : LateOk w' :=
  ⟨Nat.lt_of_lt_of_le h.1 hb.size, by rw [hb.cell (p := ⟨1, _, none⟩) h.1]; exact h.2.1, by rw [hb.cell (p := ⟨1, _, none⟩) h.1]; exact h.2.2.1, by rw [hb.cell (p := ⟨1, _, none⟩) h.1]; exact h.2.2.2.1, by rw [hb.cell (p := ⟨1, _, none⟩) h.1]; exact h.2.2.2.2⟩
/-- A binding that came in: nil, or a slice with an address. -/
def BsO (w : World) (v : Value) (l : List Bd) : Prop := (v = .slice none 0 0 ∧ l = []) ∨ ∃ ad cap, v = .slice (some ad) l.length cap ∧ l.length * 40 ≤ 140737488351232 ∧ (l = [] ∨ ∃ b o, ad = ⟨b, o, none⟩ ∧ BRow w b o l)
theorem BsO.bs {w : World} {v : Value} {l : List Bd} (h : BsO w v l) : Bs w v l := by
  rcases h with ⟨rfl, rfl⟩ | ⟨ad, cap, rfl, hl, h⟩
  · exact ⟨none, 0, rfl, by simp, Or.inl rfl⟩
  · refine ⟨some ad, cap, rfl, by omega, ?_⟩
    rcases h with h | ⟨b, o, rfl, h⟩
    · exact Or.inl h
    · exact Or.inr ⟨b, o, rfl, h⟩
theorem bcs_mem {l : List Bd} {u : Value} (h : u ∈ bcs l) : u.oneCell' = true := by
  simp only [bcs, List.mem_flatMap] at h
  obtain ⟨d, -, hu⟩ := h
  simp [Bd.cs] at hu
  rcases hu with rfl | rfl | rfl | rfl <;> rfl
theorem brow_get {w : World} {b o : Nat} {l : List Bd} (h : BRow w b o l) : ∀ j u, (bcs l)[j]? = some u → w.cell? ((⟨b, o, none⟩ : Addr).add j) = some u := fun j u hu => by
  have hj : j < l.length * 4 := by rw [← bcs_len]; exact (List.getElem?_eq_some_iff.1 hu).1
  have hq : j / 4 < l.length := by omega
  obtain ⟨d, hd⟩ : ∃ d, l[j / 4]? = some d := ⟨_, List.getElem?_eq_getElem hq⟩
  have hg := bcs_get l (j / 4) d hd (j % 4) (by omega)
  rw [show j / 4 * 4 + j % 4 = j by omega, hu] at hg
  have hc := h.2 _ _ hd
  have ha : (⟨b, o, none⟩ : Addr).add j = ⟨b, o + j / 4 * 4 + j % 4, none⟩ := by
    rw [Go.WideShapes.add_plain]; congr 1; omega
  rw [ha]
  have h4 : j % 4 = 0 ∨ j % 4 = 1 ∨ j % 4 = 2 ∨ j % 4 = 3 := by omega
  rcases h4 with e | e | e | e <;> rw [e] at hg ⊢ <;> simp [Bd.cs] at hg <;> subst hg
  · exact hc.1
  · exact hc.2.1
  · exact hc.2.2.1
  · exact hc.2.2.2
set_option maxHeartbeats 1000000 in
theorem lend_any (s : List Bd) (v : Value) (w : World) (h : BsO w v s) (hL : LateOk w) :
    Calls Tryd.prog 5 #[v] w fun e w' => ∃ g cap, e = .returned (.slice (some ⟨g, 0, none⟩) s.length cap) ∧ Own w' w.heap.size (.slice (some ⟨g, 0, none⟩) (s.length + 1) cap) (s ++ [late]) ∧ Below w.heap.size w w' := by
  obtain ⟨i0, hi0, hz0, hz1, hz2⟩ := info_parts Tryd.infoBind
  rcases h with ⟨rfl, rfl⟩ | ⟨ad, cap, rfl, hl, h⟩
  · obtain ⟨z0, l0, l1, l2, l3⟩ := hL
    go_enter Tryd.func5, Tryd.ntmps5
    go_wp2_with (first
      | (at_builtin; refine wpList_append_own_none _ _ _ _ rfl w.heap.size 43 i0 4 Tryd.underlying28 hi0 (.slice none 0 0) 0 [] (by rfl) (World.ownsRow_nil _ _ _ _) (by rfl) ?_)
      | (at_builtin; refine wpList_append_lies _ rfl _ _ _ rfl w.heap.size 43 i0 _ 4 40 Tryd.underlying28 hi0 hz0 hz1 hz2 rfl (by omega) (.slice none 0 0) 0 [] (by rfl) (World.ownsRow_nil _ _ _ _) ⟨w.heap.size, 0, none⟩ 1 1 late.cs (by rfl) (by rfl) (World.news_of_block (cs := late.cs.toArray) (t := 43) (fr := (0, 0)) (heap_alloc_new w _)) (by simp [Value.oneCell', Bd.cs]) (by omega) (by unfold maxLen; omega) (by omega) (by simp) (w.heap.size + 1) (by simp) ?_; intro gg cap1 w1 hown1 hgrow hat hlt1))
    go_ret
    refine ⟨gg, cap1, rfl, by simpa [Own, bcs] using hown1, (below1 w _).grown hgrow (by simp) (fun q e => by simp [Value.ownBlock] at e)⟩
  · have HL : Hid (LateOk w) := hL
    have hnw : ∀ j u, (bcs s)[j]? = some u → w.cell? (ad.add j) = some u := by
      rcases h with h | ⟨b, o, rfl, h⟩
      · subst h; intro j u hu; simp [bcs] at hu
      · exact brow_get h
    have HN : Hid (∀ j u, (bcs s)[j]? = some u → w.cell? (ad.add j) = some u) := hnw
    clear h hnw hL
    go_enter Tryd.func5, Tryd.ntmps5
    go_wp2_with (first
      | (at_builtin; refine wpList_append_own _ rfl _ _ _ rfl w.heap.size 43 i0 _ 4 40 Tryd.underlying28 hi0 hz0 hz1 hz2 rfl (by omega) (.slice none 0 0) 0 [] (by rfl) (World.ownsRow_nil _ _ _ _) ad s.length cap (bcs s) (by rfl) (bcs_len s) HN.out (fun u hu => bcs_mem hu) (by unfold maxLen; omega) (by omega) (Nat.le_refl _) ?_; intro v1 w1 hown hgrow hnil; rw [Nat.zero_add, List.nil_append] at hown; have hB1 : Below w.heap.size w w1 := (Below.refl _ _).grown hgrow (Nat.le_refl _) (fun q e => by simp [Value.ownBlock] at e); obtain ⟨z0, l0, l1, l2, l3⟩ := HL.out.later hB1; have HO : Hid (Own w1 w.heap.size v1 s) := hown; have hsz := hB1.size; clear hown hgrow hnil)
      | (at_builtin; refine wpList_append_lies _ rfl _ _ _ rfl w.heap.size 43 i0 _ 4 40 Tryd.underlying28 hi0 hz0 hz1 hz2 rfl (by omega) v1 s.length (bcs s) (by rfl) (HO.out.later (below1 _ _)) ⟨w1.heap.size, 0, none⟩ 1 1 late.cs (by rfl) (by rfl) (World.news_of_block (cs := late.cs.toArray) (t := 43) (fr := (0, 0)) (heap_alloc_new w1 _)) (by simp [Value.oneCell', Bd.cs]) (by omega) (by unfold maxLen; omega) (by omega) (by simp; omega) (w1.heap.size + 1) (by simp) ?_; intro gg cap1 w2 hown1 hgrow2 hat hlt1; have hcap : s.length + 1 ≤ cap1 := (by rcases hown1.2 with ⟨h, _⟩ | ⟨g, c, cur, hv, _, _, hn, _⟩; (cases h); (simp only [Value.slice.injEq] at hv; omega))))
    go_ret
    have hlto := (HO.out.later (below1 w1 (.cells late.cs.toArray 43))).lt
    refine ⟨gg, cap1, rfl, ?_, (balloc hB1).grown hgrow2 (by simp; omega) (fun q e => by have := hlto _ e; omega)⟩
    unfold Own
    rw [bcs_snoc, List.length_append]
    exact hown1
end Go.Proofs.YtnaiecemmhioeaaDoor
