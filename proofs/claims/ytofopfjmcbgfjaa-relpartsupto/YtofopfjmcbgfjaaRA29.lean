/-
  law 7: head.
-/
import Derived.Test.YtofopfjmcbgfjaaRA28
namespace Go.Proofs.Ytofopfjmcbgfjaa
open Go.RowKit
attribute [local go_sem ↓] Go.wp_at_zero Go.wp_at_succ

/-- A relation of the call's own. -/
def HD7 (w : World) (g m : Nat) (s : St7) (wr : World) : Prop := ∃ F S : Nat → Prop, RM wr g F S m s ∧ (∀ b, F b ∨ S b → w.heap.size ≤ b) ∧ Below w.heap.size w wr
theorem HD7.below {w wr w' : World} {g m : Nat} {s : St7} (h : HD7 w g m s wr) (hb : Below wr.heap.size wr w') : HD7 w g m s w' := by
  obtain ⟨F, S, h1, h2, h3⟩ := h
  exact ⟨F, S, h1.below hb, h2, h3.trans (hb.mono h3.size)⟩
theorem low7 {w wr w' : World} {F : Nat → Prop} (h3 : Below w.heap.size w wr) (h : Fr F wr w') (hd : ∀ b, F b → w.heap.size ≤ b) : Below w.heap.size w w' := h3.trans ((h.mono (Q := fun b => w.heap.size ≤ b) fun b _ hF => hd b hF).low h3.size)
theorem HD7.add {w wr : World} {g m : Nat} {s : St7} {G : Nat → Prop} {v : Value} {r : List Int} (h : HD7 w g m s wr) (hv : Li G wr v r) (he : r.length = s.wd) (hl : r.length ≤ 10000000000) (hc : s.rows.length < 10000000000) :
    Calls Try.prog 16 #[.pointer (some ⟨g, 0, none⟩), v] wr fun e w' => e = .returned (.tuple #[.bool (decide (r ∉ s.rows)), .int .i64 0]) ∧ HD7 w g m (ad7 s r) w' := by
  obtain ⟨F, S, h1, h2, h3⟩ := h
  refine (add8_any g F S G m s v r wr h1 hv he hl hc).mono ?_
  rintro e w' ⟨rfl, ⟨F', S', k1, k2, k3⟩, k4⟩
  have := h3.size
  exact ⟨rfl, F', S', k1, fun b hb => hb.elim (fun h => (k2 b h).elim (fun h => h2 b (Or.inl h)) fun h => by omega) fun h => (k3 b h).elim (fun h => h2 b (Or.inr h)) fun h => by omega, low7 h3 k4 fun b hF => h2 b (Or.inl hF)⟩
theorem HD7.no {w wr : World} {g m : Nat} {s : St7} {G : Nat → Prop} {v : Value} {r : List Int} (h : HD7 w g m s wr) (hv : Li G wr v r) (he : r.length ≠ s.wd) :
    Calls Try.prog 16 #[.pointer (some ⟨g, 0, none⟩), v] wr fun e w' => e = .returned (.tuple #[.bool false, .int .i64 71]) ∧ HD7 w g m s w' := by
  have h0 := h
  obtain ⟨F, S, h1, h2, h3⟩ := h
  exact (add7_wid g F S G m s v r wr h1 hv he).mono fun e w' ⟨h1, h2⟩ => ⟨h1, h0.below h2⟩
theorem HD7.turn {w wr : World} {g m : Nat} {s : St7} (h : HD7 w g m s wr) :
    Calls Try.prog 18 #[.pointer (some ⟨g, 0, none⟩)] wr fun e w' => e = .returned (.int .i64 ((s.rows.length : Int) - (s.xf : Int))) ∧ HD7 w g m (Turn7 s) w' := by
  obtain ⟨F, S, h1, h2, h3⟩ := h
  refine (turn7_any g F S m s wr h1).mono ?_
  rintro e w' ⟨rfl, k1, k4⟩
  exact ⟨rfl, F, S, k1, h2, low7 h3 k4 fun b hF => h2 b (Or.inl hF)⟩
theorem HD7.part {w wr : World} {g m : Nat} {s : St7} {G : Nat → Prop} {v : Value} {r : List Int} (h : HD7 w g m s wr) (hv : Li G wr v r) (hl : r.length ≤ 10000000000) :
    Calls Try.prog 28 #[.pointer (some ⟨g, 0, none⟩), v] wr fun e w' => e = .returned (.int .i64 (part7 s r)) ∧ HD7 w g m s w' := by
  have h0 := h
  obtain ⟨F, S, h1, h2, h3⟩ := h
  exact (part7_any g F S G m s v r wr h1 hv hl).mono fun e w' ⟨h1, h2⟩ => ⟨h1, h0.below h2⟩
theorem HD7.rows {w wr : World} {g m : Nat} {s : St7} (h : HD7 w g m s wr) (parts : Int) (hm : m ≤ 100000000000000) :
    Calls Try.prog 12 #[.pointer (some ⟨g, 0, none⟩), .int .i64 parts] wr fun e w' => ∃ u, e = .returned u ∧ ∃ Q, OL w' wr.heap.size u Q ∧ Q.map Prod.fst = srt7 (sel7 s parts [] []) ∧ HD7 w g (m + 1) s w' := by
  obtain ⟨F, S, h1, h2, h3⟩ := h
  refine (rows8_any g F S m s parts wr h1 hm).mono ?_
  rintro e w' ⟨u, F', P, B, rfl, k1, k2, k3, k4, k5, k6, k7, k8⟩
  have := h3.size
  exact ⟨u, rfl, P, OL.mono ⟨k6, k8⟩ k5, k7, F', S, k1, fun b hb => hb.elim (fun h => (k4 b h).1.elim (fun h => h2 b (Or.inl h)) fun h => by omega) fun h => h2 b (Or.inr h), low7 h3 k2 fun b hF => h2 b (Or.inl hF)⟩
theorem li_lit {w : World} {b n : Nat} {l : List Int} {c : Array Value} (h : Bk w b c 3) (hn : l.length = n) (hc : c.toList = ibs7 l) (hw : w64 l) (hl : n ≤ 1000) : Li Any w (.slice (some ⟨b, 0, none⟩) n n) l := by
  refine ⟨_, n, by rw [hn], by omega, by omega, hw, Or.inr ⟨b, 0, rfl, h.lt, trivial, fun i x hx => ?_⟩⟩
  rw [Nat.zero_add]
  refine h.cell ?_
  rw [← Array.getElem?_toList, hc]
  simp [ibs7, hx]
def s71 : St7 := ⟨2, [[3, 1], [1, 2]], 0, 0⟩
def s72 : St7 := ⟨2, [[3, 1], [1, 2]], 0, 2⟩
theorem s71_is : ad7 (ad7 (New7 2) [3, 1]) [1, 2] = s71 := rfl
theorem s72_ok : s72.Ok := ⟨by decide, by decide, by intro r hr; simp [s72] at hr; rcases hr with rfl | rfl <;> (intro x hx; simp at hx; rcases hx with rfl | rfl <;> rfl), by decide, by decide, by decide, by decide, by decide⟩
theorem s72_rows : srt7 (sel7 s72 7 [] []) = [[1, 2], [3, 1]] := by
  rw [sel_seven s72_ok]
  refine srtR_uniq (srt7_srt _) ?_ ((srt7_perm _).trans (List.Perm.swap _ _ _))
  simp [srtR, cmpR, sg7]
theorem s72_part : part7 s72 [3, 1] = 2 := by kernel_rfl
end Go.Proofs.Ytofopfjmcbgfjaa
