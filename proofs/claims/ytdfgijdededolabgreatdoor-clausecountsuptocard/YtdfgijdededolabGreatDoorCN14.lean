/-
  ref's insert. (Written by CN14.py.)
-/
import Derived.Test.YtdfgijdededolabGreatDoorCN13
namespace Go.Proofs.YtdfgijdededolabGreatDoor
open Go.RowKit

theorem ins_rise {α : Type} {f : α → α → Int} (o : Ord3 f) {l : List α} {p : α} {i : Nat} (hr : l.Pairwise (ltG f)) (h1 : ∀ k x, k < i → l[k]? = some x → f x p < 0) (h2 : ∀ x, l[i]? = some x → f p x < 0) : RiseOf f (l.take i ++ [p] ++ l.drop i) (l ++ [p]) := by
  have hd : ∀ x ∈ l.drop i, f p x < 0 := fun x hx => by
    obtain ⟨k, hk, rfl⟩ := List.mem_iff_getElem.1 hx
    rw [List.length_drop] at hk
    have hi : i < l.length := by omega
    have h3 := h2 _ (List.getElem?_eq_getElem hi)
    rw [List.getElem_drop]
    by_cases e : k = 0
    · subst e; exact h3
    · have h4 : f l[i] l[i + k] < 0 := List.pairwise_iff_getElem.1 hr i (i + k) hi (by omega) (by omega)
      exact (o.tr _ _ _ (by omega) (by omega)).2 (Or.inl h3)
  have ht : ∀ x ∈ l.take i, f x p < 0 := fun x hx => by
    obtain ⟨k, hk, rfl⟩ := List.mem_iff_getElem.1 hx
    rw [List.length_take] at hk
    rw [List.getElem_take]
    exact h1 k _ (by omega) (List.getElem?_eq_getElem (by omega))
  refine ⟨?_, fun x => ?_⟩
  · refine List.pairwise_append.2 ⟨List.pairwise_append.2 ⟨hr.sublist (List.take_sublist _ _), List.pairwise_singleton _ _, fun a ha b hb => ?_⟩, hr.sublist (List.drop_sublist _ _), fun a ha b hb => ?_⟩
    · rw [List.mem_singleton] at hb; subst hb; exact ht a ha
    · have hb' := hd b hb
      rcases List.mem_append.1 ha with ha | ha
      · have ha' := ht a ha
        exact (o.tr a p b (by omega) (by omega)).2 (Or.inl ha')
      · rw [List.mem_singleton] at ha; subst ha; exact hb'
  · conv => rhs; rw [← List.take_append_drop i l]
    simp only [List.mem_append]
    constructor
    · rintro ((h | h) | h)
      · exact Or.inl (Or.inl h)
      · exact Or.inr h
      · exact Or.inl (Or.inr h)
    · rintro ((h | h) | h)
      · exact Or.inl (Or.inl h)
      · exact Or.inr h
      · exact Or.inl (Or.inr h)
theorem ins_there {α : Type} {f : α → α → Int} {l : List α} {p : α} (hr : l.Pairwise (ltG f)) (h : p ∈ l) : RiseOf f l (l ++ [p]) :=
  ⟨hr, fun x => ⟨fun hx => List.mem_append.2 (Or.inl hx), fun hx => by rcases List.mem_append.1 hx with hx | hx; exact hx; rw [List.mem_singleton] at hx; subst hx; exact h⟩⟩
def INS (w : World) (B : Nat) (l : List Pd) (p : Pd) (e : Ending) (w' : World) : Prop := ∃ v' o, e = .returned v' ∧ OwnP w' B v' o ∧ RiseOf cmpP o (l ++ [p]) ∧ o.length ≤ l.length + 1 ∧ Below w.heap.size w w'
theorem ins_mk {w w' : World} {B : Nat} {l o : List Pd} {p : Pd} {v' : Value} (h1 : OwnP w' B v' o) (h2 : RiseOf cmpP o (l ++ [p])) (h3 : o.length ≤ l.length + 1) (h4 : Below w.heap.size w w') : INS w B l p (.returned v') w' := ⟨v', o, rfl, h1, h2, h3, h4⟩
theorem prow_take {w : World} {b o i : Nat} {l : List Pd} (h : PRow w b o l) : PRow w b o (l.take i) := ⟨h.1, fun k t ht => h.2 k t (by rw [List.getElem?_take] at ht; split at ht; exact ht; cases ht)⟩
theorem prow_drop {w : World} {b o i : Nat} {l : List Pd} (h : PRow w b o l) : PRow w b (o + i * 2) (l.drop i) := ⟨h.1, fun k t ht => by
  have := h.2 (i + k) t (by rw [List.getElem?_drop] at ht; exact ht)
  rw [show o + i * 2 + k * 2 = o + (i + k) * 2 by omega]; exact this⟩
theorem ownP_row {w : World} {B g cap n : Nat} {l : List Pd} (h : OwnP w B (.slice (some ⟨g, 0, none⟩) n cap) l) : PRow w g 0 l :=
  ⟨(h.lt g rfl).2, fun i t ht => by simpa using ownP_cells h i t ht⟩
theorem psp_take {w : World} {B g cap i : Nat} {l : List Pd} (h : OwnP w B (.slice (some ⟨g, 0, none⟩) l.length cap) l) (hi : i ≤ l.length) : PsP w (.slice (some ⟨g, 0, none⟩) i cap) (l.take i) :=
  Or.inr ⟨_, cap, by rw [List.length_take, Nat.min_eq_left hi], Or.inr ⟨g, 0, rfl, prow_take (ownP_row h)⟩⟩
theorem psp_drop {w : World} {B g cap c i : Nat} {l : List Pd} (h : OwnP w B (.slice (some ⟨g, 0, none⟩) l.length cap) l) : PsP w (.slice (some ⟨g, i * 2, none⟩) (l.length - i) c) (l.drop i) :=
  Or.inr ⟨_, c, by rw [List.length_drop], Or.inr ⟨g, i * 2, rfl, by have := prow_drop (i := i) (ownP_row h); rwa [Nat.zero_add] at this⟩⟩
theorem psp_if (w : World) (P : Prop) [Decidable P] (a b : Addr) (n : Nat) : PsP w (.slice (if P then some a else some b) 0 n) [] := by
  split <;> exact Or.inr ⟨_, _, rfl, Or.inl rfl⟩
theorem ownP_form {w : World} {B : Nat} {v : Value} {l : List Pd} (h : OwnP w B v l) : (v = .slice none 0 0 ∧ l = []) ∨ ∃ g cap, v = .slice (some ⟨g, 0, none⟩) l.length cap ∧ l.length ≤ cap := by
  rcases h.2 with ⟨rfl, hn⟩ | ⟨g, cap, cur, rfl, -, -, hn, -⟩
  · exact Or.inl ⟨rfl, List.length_eq_zero_iff.1 hn⟩
  · exact Or.inr ⟨g, cap, rfl, hn⟩
set_option maxRecDepth 20000 in
set_option maxHeartbeats 4000000 in
theorem insert_nil (p : Pd) (w : World) (B : Nat) (hB : B ≤ w.heap.size) : Calls Tryz.prog 41 #[.slice none 0 0, p.v] w (INS w B [] p) := by
  have HF : Hid (RiseOf cmpP [p] ([] ++ [p])) := RiseOf.one p
  obtain ⟨pn, pa⟩ := p
  have HBX : Hid (CBlk (w.alloc (.cells #[.string pn, .int .i64 pa] 61)) w.heap.size #[.string pn, .int .i64 pa] 61) := CBlk.new _ _ _
  have HB0 : Hid (Below w.heap.size w (w.alloc (.cells #[.string pn, .int .i64 pa] 61))) := below1 _ _
  go_enter Tryz.func41, Tryz.ntmps41
  go_wp2
  revert HBX HB0
  generalize w.alloc (.cells #[.string pn, .int .i64 pa] 61) = W
  intro HBX HB0
  go_loopg [5] 0 (fun g i wr => i = .int .i64 0 ∧ wr = W)
  case atStart => exact ⟨rfl, rfl⟩
  case round =>
    obtain ⟨rfl, rfl⟩ := hrel
    go_upto_region 2 with fail
    refine wp_region_held_drew (S := fun w' => Below wr.heap.size wr w') (by kernel_rfl) (Below.refl _ _).drew (fun hH => ?_)
    revert hH
    generalize wr.drew = V
    intro hH
    refine wpAnyH_take (i := 0) (oi := ⟨_, _, _, _, _, _⟩) (v := .int .i64 0) rfl (by kernel_rfl) (by kernel_rfl) (by kernel_rfl) (fun _ _ _ h => h) (Or.inl ⟨by rfl, fun w' _ => by go_simp⟩) hH ?_
    simp only [Act.put, List.setIfInBounds_toArray, List.set_cons_zero, List.set_cons_succ]
    refine wpAnyH_take (i := 1) (oi := ⟨_, _, _, _, _, _⟩) (v := .slice none 0 0) rfl (by kernel_rfl) (by kernel_rfl) (by kernel_rfl) (fun _ _ _ h => h) (Or.inl ⟨by rfl, fun w' _ => by go_simp⟩) hH ?_
    simp only [Act.put, List.setIfInBounds_toArray, List.set_cons_zero, List.set_cons_succ]
    refine wpAnyH_take (i := 2) (oi := ⟨_, _, _, _, _, _⟩) (v := .int .i64 0) rfl (by kernel_rfl) (by kernel_rfl) (by kernel_rfl) (fun _ _ _ h => h) (Or.inl ⟨by rfl, fun w' _ => by go_simp⟩) hH ?_
    simp only [Act.put, List.setIfInBounds_toArray, List.set_cons_zero, List.set_cons_succ]
    refine wpAnyH_take (i := 3) (oi := ⟨_, _, _, _, _, _⟩) (v := .bool false) rfl (by kernel_rfl) (by kernel_rfl) (by kernel_rfl) (fun _ _ _ h => h) (Or.inl ⟨by rfl, fun w' _ => by go_simp⟩) hH ?_
    simp only [Act.put, List.setIfInBounds_toArray, List.set_cons_zero, List.set_cons_succ]
    refine wpAnyH_take (i := 4) (oi := ⟨_, _, _, _, _, _⟩) (v := .bool false) rfl (by kernel_rfl) (by kernel_rfl) (by kernel_rfl) (fun _ _ _ h => h) (Or.inl ⟨by rfl, fun w' _ => by go_simp⟩) hH ?_
    simp only [Act.put, List.setIfInBounds_toArray, List.set_cons_zero, List.set_cons_succ]
    refine wpAnyH_take (i := 5) (oi := ⟨_, _, _, _, _, _⟩) (v := undef) rfl (by kernel_rfl) (by kernel_rfl) (by kernel_rfl) (fun _ _ _ h => h) (Or.inr ⟨by rfl, rfl⟩) hH ?_
    simp only [Act.put, List.setIfInBounds_toArray, List.set_cons_zero, List.set_cons_succ]
    refine wpAnyH_take (i := 6) (oi := ⟨_, _, _, _, _, _⟩) (v := undef) rfl (by kernel_rfl) (by kernel_rfl) (by kernel_rfl) (fun _ _ _ h => h) (Or.inr ⟨by rfl, rfl⟩) hH ?_
    simp only [Act.put, List.setIfInBounds_toArray, List.set_cons_zero, List.set_cons_succ]
    refine wpAnyH_take (i := 7) (oi := ⟨_, _, _, _, _, _⟩) (v := undef) rfl (by kernel_rfl) (by kernel_rfl) (by kernel_rfl) (fun _ _ _ h => h) (Or.inr ⟨by rfl, rfl⟩) hH ?_
    simp only [Act.put, List.setIfInBounds_toArray, List.set_cons_zero, List.set_cons_succ]
    refine wpAnyH_take (i := 8) (oi := ⟨_, _, _, _, _, _⟩) (v := undef) rfl (by kernel_rfl) (by kernel_rfl) (by kernel_rfl) (fun _ _ _ h => h) (Or.inr ⟨by rfl, rfl⟩) hH ?_
    simp only [Act.put, List.setIfInBounds_toArray, List.set_cons_zero, List.set_cons_succ]
    refine wpAnyH_take (i := 9) (oi := ⟨_, _, _, _, _, _⟩) (v := undef) rfl (by kernel_rfl) (by kernel_rfl) (by kernel_rfl) (fun _ _ _ h => h) (Or.inr ⟨by rfl, rfl⟩) hH ?_
    simp only [Act.put, List.setIfInBounds_toArray, List.set_cons_zero, List.set_cons_succ]
    refine wpAnyH_take (i := 10) (oi := ⟨_, _, _, _, _, _⟩) (v := undef) rfl (by kernel_rfl) (by kernel_rfl) (by kernel_rfl) (fun _ _ _ h => h) (Or.inr ⟨by rfl, rfl⟩) hH ?_
    simp only [Act.put, List.setIfInBounds_toArray, List.set_cons_zero, List.set_cons_succ]
    refine wpAnyH_take (i := 11) (oi := ⟨_, _, _, _, _, _⟩) (v := .bool false) rfl (by kernel_rfl) (by kernel_rfl) (by kernel_rfl) (fun _ _ _ h => h) (Or.inl ⟨by rfl, fun w' _ => by go_simp⟩) hH ?_
    simp only [Act.put, List.setIfInBounds_toArray, List.set_cons_zero, List.set_cons_succ]
    refine wpAnyH_done (by kernel_rfl) ?_ _
    have HW : Hid (Below wr.heap.size wr V) := hH
    clear hH
    go_upto_region 4 with fail
    refine wp_region_held_drew (S := fun w' => Below V.heap.size V w') (by kernel_rfl) (Below.refl _ _).drew (fun hH => ?_)
    revert hH
    generalize V.drew = V2
    intro hH
    refine wpAnyH_take (i := 0) (oi := ⟨_, _, _, _, _, _⟩) (v := .int .i64 0) rfl (by kernel_rfl) (by kernel_rfl) (by kernel_rfl) (fun _ _ _ h => h) (Or.inl ⟨by rfl, fun w' _ => by go_simp⟩) hH ?_
    simp only [Act.put, List.setIfInBounds_toArray, List.set_cons_zero, List.set_cons_succ]
    refine wpAnyH_take (i := 1) (oi := ⟨_, _, _, _, _, _⟩) (v := .slice none 0 0) rfl (by kernel_rfl) (by kernel_rfl) (by kernel_rfl) (fun _ _ _ h => h) (Or.inl ⟨by rfl, fun w' _ => by go_simp⟩) hH ?_
    simp only [Act.put, List.setIfInBounds_toArray, List.set_cons_zero, List.set_cons_succ]
    refine wpAnyH_take (i := 2) (oi := ⟨_, _, _, _, _, _⟩) (v := .int .i64 0) rfl (by kernel_rfl) (by kernel_rfl) (by kernel_rfl) (fun _ _ _ h => h) (Or.inl ⟨by rfl, fun w' _ => by go_simp⟩) hH ?_
    simp only [Act.put, List.setIfInBounds_toArray, List.set_cons_zero, List.set_cons_succ]
    refine wpAnyH_take (i := 3) (oi := ⟨_, _, _, _, _, _⟩) (v := .bool false) rfl (by kernel_rfl) (by kernel_rfl) (by kernel_rfl) (fun _ _ _ h => h) (Or.inl ⟨by rfl, fun w' _ => by go_simp⟩) hH ?_
    simp only [Act.put, List.setIfInBounds_toArray, List.set_cons_zero, List.set_cons_succ]
    refine wpAnyH_take (i := 4) (oi := ⟨_, _, _, _, _, _⟩) (v := .bool false) rfl (by kernel_rfl) (by kernel_rfl) (by kernel_rfl) (fun _ _ _ h => h) (Or.inl ⟨by rfl, fun w' _ => by go_simp⟩) hH ?_
    simp only [Act.put, List.setIfInBounds_toArray, List.set_cons_zero, List.set_cons_succ]
    refine wpAnyH_take (i := 5) (oi := ⟨_, _, _, _, _, _⟩) (v := undef) rfl (by kernel_rfl) (by kernel_rfl) (by kernel_rfl) (fun _ _ _ h => h) (Or.inr ⟨by rfl, rfl⟩) hH ?_
    simp only [Act.put, List.setIfInBounds_toArray, List.set_cons_zero, List.set_cons_succ]
    refine wpAnyH_take (i := 6) (oi := ⟨_, _, _, _, _, _⟩) (v := undef) rfl (by kernel_rfl) (by kernel_rfl) (by kernel_rfl) (fun _ _ _ h => h) (Or.inr ⟨by rfl, rfl⟩) hH ?_
    simp only [Act.put, List.setIfInBounds_toArray, List.set_cons_zero, List.set_cons_succ]
    refine wpAnyH_take (i := 7) (oi := ⟨_, _, _, _, _, _⟩) (v := undef) rfl (by kernel_rfl) (by kernel_rfl) (by kernel_rfl) (fun _ _ _ h => h) (Or.inr ⟨by rfl, rfl⟩) hH ?_
    simp only [Act.put, List.setIfInBounds_toArray, List.set_cons_zero, List.set_cons_succ]
    refine wpAnyH_take (i := 8) (oi := ⟨_, _, _, _, _, _⟩) (v := undef) rfl (by kernel_rfl) (by kernel_rfl) (by kernel_rfl) (fun _ _ _ h => h) (Or.inr ⟨by rfl, rfl⟩) hH ?_
    simp only [Act.put, List.setIfInBounds_toArray, List.set_cons_zero, List.set_cons_succ]
    refine wpAnyH_take (i := 9) (oi := ⟨_, _, _, _, _, _⟩) (v := undef) rfl (by kernel_rfl) (by kernel_rfl) (by kernel_rfl) (fun _ _ _ h => h) (Or.inr ⟨by rfl, rfl⟩) hH ?_
    simp only [Act.put, List.setIfInBounds_toArray, List.set_cons_zero, List.set_cons_succ]
    refine wpAnyH_take (i := 10) (oi := ⟨_, _, _, _, _, _⟩) (v := undef) rfl (by kernel_rfl) (by kernel_rfl) (by kernel_rfl) (fun _ _ _ h => h) (Or.inr ⟨by rfl, rfl⟩) hH ?_
    simp only [Act.put, List.setIfInBounds_toArray, List.set_cons_zero, List.set_cons_succ]
    refine wpAnyH_take (i := 11) (oi := ⟨_, _, _, _, _, _⟩) (v := .bool false) rfl (by kernel_rfl) (by kernel_rfl) (by kernel_rfl) (fun _ _ _ h => h) (Or.inl ⟨by rfl, fun w' _ => by go_simp⟩) hH ?_
    simp only [Act.put, List.setIfInBounds_toArray, List.set_cons_zero, List.set_cons_succ]
    refine wpAnyH_done (by kernel_rfl) ?_ _
    have HW2 : Hid (Below V.heap.size V V2) := hH
    clear hH
    have HX : Hid (Below w.heap.size w V2) := HB0.out.trans ((below_step HW.out HW2.out).mono HB0.out.size)
    have HBX2 : Hid (CBlk V2 w.heap.size #[.string pn, .int .i64 pa] 61) := (HBX.out.later HW.out).later HW2.out
    have HXZ : Hid (w.heap.size + 1 ≤ V2.heap.size) := HBX2.out.lt
    have HNIL : Hid (∀ Y : World, OwnP Y (w.heap.size + 1) (.slice none 0 0) []) := fun Y => ownP_nil _ _
    go_wp2_with (first
      | (at_builtin; refine app_preds rfl _ _ rfl (w.heap.size + 1) (.slice none 0 0) [] (by rfl) (HNIL.out _) _ [] (by rfl) (Or.inl ⟨rfl, rfl⟩) (by simp) HXZ.out ?_; intro v1 w1 hown hb1 hg1; have HO1 : Hid (OwnP w1 (w.heap.size + 1) v1 ([] ++ [])) := hown; have HX1 : Hid (Below w.heap.size w w1) := HX.out.trans (hb1.mono (by omega)); have HC1 : Hid (CBlk w1 w.heap.size #[.string pn, .int .i64 pa] 61) := (hb1.block _ (by omega)).trans HBX2.out; have HZ1 : Hid (w.heap.size + 1 ≤ w1.heap.size) := Nat.le_trans HXZ.out hb1.size; have y0 : w1.cell? ⟨w.heap.size, 0, none⟩ = some (.string pn) := cell_of_row _ _ _ _ _ _ HC1.out; have y1 : w1.cell? ⟨w.heap.size, 1, none⟩ = some (.int .i64 pa) := cell_of_row _ _ _ _ _ _ HC1.out; clear hown hb1 hg1 HNIL)
      | (at_builtin; (refine app_preds rfl _ _ rfl (w.heap.size + 1) v1 ([] ++ []) (by rfl) (HO1.out.later (below1 _ _)) _ [⟨pn, pa⟩] (by rfl) (PsP.one (CBlk.new _ _ _)) (by simp) (Nat.le_trans HZ1.out (by simp)) ?_; intro v2 w2 hown hb2 hg2; have HO2 : Hid (OwnP w2 (w.heap.size + 1) v2 ([] ++ [⟨pn, pa⟩])) := hown; have HX2 : Hid (Below w.heap.size w w2) := (below_step HX1.out (below1 _ _)).trans (hb2.mono (by omega)); have HZ2 : Hid (w.heap.size + 1 ≤ w2.heap.size) := (by show w.heap.size + 1 ≤ w2.heap.size; have h1 := HZ1.out; have h2 := hb2.size; simp at h2; omega); clear hown hb2 hg2))
      | (at_builtin; (refine app_preds rfl _ _ rfl (w.heap.size + 1) v2 ([] ++ [⟨pn, pa⟩]) (by rfl) HO2.out _ [] (by rfl) (Or.inl ⟨rfl, rfl⟩) (by simp) HZ2.out ?_; intro v3 w3 hown hb3 hg3; have HO3 : Hid (OwnP w3 (w.heap.size + 1) v3 ([] ++ [⟨pn, pa⟩] ++ [])) := hown; have HX3 : Hid (Below w.heap.size w w3) := HX2.out.trans (hb3.mono (by omega)); clear hown hb3 hg3)))
    all_goals go_ret
    all_goals exact ins_mk (HO3.out.mono (by omega)) HF.out (by simp) HX3.out
set_option maxRecDepth 20000 in
set_option maxHeartbeats 8000000 in
theorem insert_some (l : List Pd) (g cap : Nat) (p : Pd) (w : World) (B : Nat) (h : OwnP w B (.slice (some ⟨g, 0, none⟩) l.length cap) l) (hr : l.Pairwise (ltG cmpP)) (hcap : l.length ≤ cap) (hl : l.length ≤ 3000000000000) (hB : B ≤ w.heap.size) :
    Calls Tryz.prog 41 #[.slice (some ⟨g, 0, none⟩) l.length cap, p.v] w (INS w B l p) := by
  have HO : Hid (∀ Y : World, Below w.heap.size w Y → OwnP Y B (.slice (some ⟨g, 0, none⟩) l.length cap) l) := fun Y hY => h.later hY
  have HR : Hid (l.Pairwise (ltG cmpP)) := hr
  have hgl := (h.lt g rfl).2
  have HA : Hid (∀ (t : Pd) (Y : World), Calls Tryz.prog 87 #[t.v, p.v] Y fun e w' => e = .returned (.bool (decide (cmpP t p < 0))) ∧ Below Y.heap.size Y w') := fun t Y => ahead_any t p Y
  have HFY : Hid (∀ i : Nat, (∀ k x, k < i → l[k]? = some x → cmpP x p < 0) → (∀ x, l[i]? = some x → cmpP p x < 0) → RiseOf cmpP (l.take i ++ [p] ++ l.drop i) (l ++ [p])) := fun i h1 h2 => ins_rise ord_pd hr h1 h2
  have HFN : Hid (p ∈ l → RiseOf cmpP l (l ++ [p])) := fun h => ins_there hr h
  clear h hr
  obtain ⟨P, hP⟩ : ∃ P : Pd, P = p := ⟨_, rfl⟩
  obtain ⟨pn, pa⟩ := p
  have HBX : Hid (CBlk (w.alloc (.cells #[.string pn, .int .i64 pa] 61)) w.heap.size #[.string pn, .int .i64 pa] 61) := CBlk.new _ _ _
  have HB0 : Hid (Below w.heap.size w (w.alloc (.cells #[.string pn, .int .i64 pa] 61))) := below1 _ _
  have hz0 : (w.alloc (.cells #[.string pn, .int .i64 pa] 61)).heap.size = w.heap.size + 1 := by simp
  go_enter Tryz.func41, Tryz.ntmps41
  go_wp2
  have ic : (l.length : Int) ≤ (cap : Int) := by omega
  revert HBX HB0 hz0
  generalize w.alloc (.cells #[.string pn, .int .i64 pa] 61) = W
  intro HBX HB0 hz0
  have HZ0 : Hid (W.heap.size = w.heap.size + 1) := hz0
  clear hz0
  go_loopg [5] l.length (fun gk i wr => ∃ j : Nat, j + gk = l.length ∧ i = .int .i64 (j : Int) ∧ (∀ k x, k < j → l[k]? = some x → cmpP x ⟨pn, pa⟩ < 0) ∧ Below W.heap.size W wr)
  case atStart => exact ⟨0, by omega, rfl, (fun k x hk => by omega), Below.refl _ _⟩
  case round =>
    obtain ⟨j, hj, rfl, hah, hb⟩ := hrel
    have HAH0 : Hid (∀ k x, k < j → l[k]? = some x → cmpP x ⟨pn, pa⟩ < 0) := hah
    have HB : Hid (Below W.heap.size W wr) := hb
    have HBX : Hid (CBlk wr w.heap.size #[.string pn, .int .i64 pa] 61) := HBX.out.later hb
    clear hah hb
    have j0 : (0 : Int) ≤ (j : Int) := by omega
    have hgw : g < wr.heap.size := by have h1 := HB.out.size; have h2 := HZ0.out; omega
    by_cases hjl : j < l.length
    · have k1 : (j : Int) < (l.length : Int) := by omega
      obtain ⟨t, ht⟩ : ∃ z, l[j]? = some z := ⟨_, List.getElem?_eq_getElem hjl⟩
      have HRW : Hid (PRow wr g 0 l ∧ l[j]? = some t) := ⟨ownP_row (HO.out wr (HB0.out.trans (HB.out.mono HB0.out.size))), ht⟩
      have HAH := HA.out t
      have hcmp : cmpP t ⟨pn, pa⟩ < 0 ∨ ¬ cmpP t ⟨pn, pa⟩ < 0 := by omega
      rcases hcmp with hlt | hge
      · have HN : Hid (∀ k x, k < j + 1 → l[k]? = some x → cmpP x ⟨pn, pa⟩ < 0) := fun k x hk hx => by
          by_cases e : k = j
          · subst e; rw [ht] at hx; cases hx; exact hlt
          · exact HAH0.out k x (by omega) hx
        rw [decide_eq_true hlt] at HAH
        have HAH : Hid (∀ Y : World, Calls Tryz.prog 87 #[t.v, .agg #[.string pn, .int .i64 pa]] Y fun e w' => e = .returned (.bool true) ∧ Below Y.heap.size Y w') := HAH
        clear ht hlt
        obtain ⟨tn, ta⟩ := t
        go_upto_region 2 with fail
        refine wp_region_held_drew (S := fun w' => Below wr.heap.size wr w') (by kernel_rfl) (Below.refl _ _).drew (fun hH => ?_)
        revert hH
        generalize wr.drew = V
        intro hH
        refine wpAnyH_take (i := 0) (oi := ⟨_, _, _, _, _, _⟩) (v := .int .i64 (j : Int)) rfl (by kernel_rfl) (by kernel_rfl) (by kernel_rfl) (fun _ _ _ h => h) (Or.inl ⟨by rfl, fun w' _ => by go_simp⟩) hH ?_
        simp only [Act.put, List.setIfInBounds_toArray, List.set_cons_zero, List.set_cons_succ]
        refine wpAnyH_take (i := 1) (oi := ⟨_, _, _, _, _, _⟩) (v := .slice (some ⟨g, 0, none⟩) l.length cap) rfl (by kernel_rfl) (by kernel_rfl) (by kernel_rfl) (fun _ _ _ h => h) (Or.inl ⟨by rfl, fun w' _ => by go_simp⟩) hH ?_
        simp only [Act.put, List.setIfInBounds_toArray, List.set_cons_zero, List.set_cons_succ]
        refine wpAnyH_take (i := 2) (oi := ⟨_, _, _, _, _, _⟩) (v := .int .i64 (l.length : Int)) rfl (by kernel_rfl) (by kernel_rfl) (by kernel_rfl) (fun _ _ _ h => h) (Or.inl ⟨by rfl, fun w' _ => by go_simp⟩) hH ?_
        simp only [Act.put, List.setIfInBounds_toArray, List.set_cons_zero, List.set_cons_succ]
        refine wpAnyH_take (i := 3) (oi := ⟨_, _, _, _, _, _⟩) (v := .bool true) rfl (by kernel_rfl) (by kernel_rfl) (by kernel_rfl) (fun _ _ _ h => h) (Or.inl ⟨by rfl, fun w' _ => by go_simp⟩) hH ?_
        simp only [Act.put, List.setIfInBounds_toArray, List.set_cons_zero, List.set_cons_succ]
        refine wpAnyH_take (i := 4) (oi := ⟨_, _, _, _, _, _⟩) (v := .bool true) rfl (by kernel_rfl) (by kernel_rfl) (by kernel_rfl) (fun _ _ _ h => h) (Or.inl ⟨by rfl, fun w' _ => by go_simp⟩) hH ?_
        simp only [Act.put, List.setIfInBounds_toArray, List.set_cons_zero, List.set_cons_succ]
        refine wpAnyH_take (i := 5) (oi := ⟨_, _, _, _, _, _⟩) (v := .slice (some ⟨g, 0, none⟩) l.length cap) rfl (by kernel_rfl) (by kernel_rfl) (by kernel_rfl) (fun _ _ _ h => h) (Or.inl ⟨by rfl, fun w' _ => by go_simp⟩) hH ?_
        simp only [Act.put, List.setIfInBounds_toArray, List.set_cons_zero, List.set_cons_succ]
        refine wpAnyH_take (i := 6) (oi := ⟨_, _, _, _, _, _⟩) (v := .int .i64 (j : Int)) rfl (by kernel_rfl) (by kernel_rfl) (by kernel_rfl) (fun _ _ _ h => h) (Or.inl ⟨by rfl, fun w' _ => by go_simp⟩) hH ?_
        simp only [Act.put, List.setIfInBounds_toArray, List.set_cons_zero, List.set_cons_succ]
        refine wpAnyH_take (i := 7) (oi := ⟨_, _, _, _, _, _⟩) (v := .pointer (some ⟨g, j * 2, none⟩)) rfl (by kernel_rfl) (by kernel_rfl) (by kernel_rfl) (fun _ _ _ h => h) (Or.inl ⟨by rfl, fun w' _ => by go_simp⟩) hH ?_
        simp only [Act.put, List.setIfInBounds_toArray, List.set_cons_zero, List.set_cons_succ]
        refine wpAnyH_take (i := 8) (oi := ⟨_, _, _, _, _, _⟩) (v := .agg #[.string tn, .int .i64 ta]) rfl (by kernel_rfl) (by kernel_rfl) (by kernel_rfl) (fun _ _ _ h => h) (Or.inl ⟨by rfl, fun w' h => by obtain ⟨y0, y1⟩ := (PRow.later (Hid.out HRW).1 h).2 _ _ (Hid.out HRW).2; simp only [Nat.zero_add] at y0 y1; clear h; go_simp⟩) hH ?_
        simp only [Act.put, List.setIfInBounds_toArray, List.set_cons_zero, List.set_cons_succ]
        refine wpAnyH_take (i := 9) (oi := ⟨_, _, _, _, _, _⟩) (v := .agg #[.string pn, .int .i64 pa]) rfl (by kernel_rfl) (by kernel_rfl) (by kernel_rfl) (fun _ _ _ h => h) (Or.inl ⟨by rfl, fun w' h => by have hc := CBlk.later (Hid.out HBX) h; have y0 : w'.cell? ⟨w.heap.size, 0, none⟩ = some (.string pn) := cell_of_row _ _ _ _ _ _ hc; have y1 : w'.cell? ⟨w.heap.size, 1, none⟩ = some (.int .i64 pa) := cell_of_row _ _ _ _ _ _ hc; clear h hc; go_simp⟩) hH ?_
        simp only [Act.put, List.setIfInBounds_toArray, List.set_cons_zero, List.set_cons_succ]
        refine wpAnyH_ready (rs := [10]) (by kernel_rfl) (by simp) ?_
        refine (AllReadyH.cons (o := ⟨_, _, _, _, _, _⟩) rfl (fun K hK => ?_) AllReadyH.nil)
        go_simp
        refine (HAH.out V).mono ?_
        rintro e V1 ⟨rfl, hb⟩
        refine hK.out _ _ (below_step hH hb) (fun hH => ?_)
        clear hK K hb
        refine wpAnyH_take (i := 11) (oi := ⟨_, _, _, _, _, _⟩) (v := .bool true) rfl (by kernel_rfl) (by kernel_rfl) (by kernel_rfl) (fun _ _ _ h => h) (Or.inl ⟨by rfl, fun w' _ => by go_simp⟩) hH ?_
        simp only [Act.put, List.setIfInBounds_toArray, List.set_cons_zero, List.set_cons_succ]
        refine wpAnyH_done (by kernel_rfl) ?_ _
        have HW : Hid (Below wr.heap.size wr V1) := hH
        clear hH
        go_wp2
        go_roundg (gk - 1)
        case measure => omega
        case rel => exact ⟨j + 1, by omega, by go_num, HN.out, below_step HB.out HW.out⟩
      · rw [decide_eq_false hge] at HAH
        have HAH : Hid (∀ Y : World, Calls Tryz.prog 87 #[t.v, .agg #[.string pn, .int .i64 pa]] Y fun e w' => e = .returned (.bool false) ∧ Below Y.heap.size Y w') := HAH
        by_cases heq : t = ⟨pn, pa⟩
        · have HFIN : Hid (RiseOf cmpP l (l ++ [⟨pn, pa⟩])) := HFN.out (by rw [← heq]; exact List.mem_of_getElem? ht)
          have HQE : Hid (t.nm.toList = pn.toList ∧ t.ar = pa) := by rw [heq]; exact ⟨rfl, rfl⟩
          clear heq ht hge
          obtain ⟨tn, ta⟩ := t
          have HQE : Hid (tn.toList = pn.toList ∧ ta = pa) := HQE.out
          go_upto_region 2 with fail
          refine wp_region_held_drew (S := fun w' => Below wr.heap.size wr w') (by kernel_rfl) (Below.refl _ _).drew (fun hH => ?_)
          revert hH
          generalize wr.drew = V
          intro hH
          refine wpAnyH_take (i := 0) (oi := ⟨_, _, _, _, _, _⟩) (v := .int .i64 (j : Int)) rfl (by kernel_rfl) (by kernel_rfl) (by kernel_rfl) (fun _ _ _ h => h) (Or.inl ⟨by rfl, fun w' _ => by go_simp⟩) hH ?_
          simp only [Act.put, List.setIfInBounds_toArray, List.set_cons_zero, List.set_cons_succ]
          refine wpAnyH_take (i := 1) (oi := ⟨_, _, _, _, _, _⟩) (v := .slice (some ⟨g, 0, none⟩) l.length cap) rfl (by kernel_rfl) (by kernel_rfl) (by kernel_rfl) (fun _ _ _ h => h) (Or.inl ⟨by rfl, fun w' _ => by go_simp⟩) hH ?_
          simp only [Act.put, List.setIfInBounds_toArray, List.set_cons_zero, List.set_cons_succ]
          refine wpAnyH_take (i := 2) (oi := ⟨_, _, _, _, _, _⟩) (v := .int .i64 (l.length : Int)) rfl (by kernel_rfl) (by kernel_rfl) (by kernel_rfl) (fun _ _ _ h => h) (Or.inl ⟨by rfl, fun w' _ => by go_simp⟩) hH ?_
          simp only [Act.put, List.setIfInBounds_toArray, List.set_cons_zero, List.set_cons_succ]
          refine wpAnyH_take (i := 3) (oi := ⟨_, _, _, _, _, _⟩) (v := .bool true) rfl (by kernel_rfl) (by kernel_rfl) (by kernel_rfl) (fun _ _ _ h => h) (Or.inl ⟨by rfl, fun w' _ => by go_simp⟩) hH ?_
          simp only [Act.put, List.setIfInBounds_toArray, List.set_cons_zero, List.set_cons_succ]
          refine wpAnyH_take (i := 4) (oi := ⟨_, _, _, _, _, _⟩) (v := .bool true) rfl (by kernel_rfl) (by kernel_rfl) (by kernel_rfl) (fun _ _ _ h => h) (Or.inl ⟨by rfl, fun w' _ => by go_simp⟩) hH ?_
          simp only [Act.put, List.setIfInBounds_toArray, List.set_cons_zero, List.set_cons_succ]
          refine wpAnyH_take (i := 5) (oi := ⟨_, _, _, _, _, _⟩) (v := .slice (some ⟨g, 0, none⟩) l.length cap) rfl (by kernel_rfl) (by kernel_rfl) (by kernel_rfl) (fun _ _ _ h => h) (Or.inl ⟨by rfl, fun w' _ => by go_simp⟩) hH ?_
          simp only [Act.put, List.setIfInBounds_toArray, List.set_cons_zero, List.set_cons_succ]
          refine wpAnyH_take (i := 6) (oi := ⟨_, _, _, _, _, _⟩) (v := .int .i64 (j : Int)) rfl (by kernel_rfl) (by kernel_rfl) (by kernel_rfl) (fun _ _ _ h => h) (Or.inl ⟨by rfl, fun w' _ => by go_simp⟩) hH ?_
          simp only [Act.put, List.setIfInBounds_toArray, List.set_cons_zero, List.set_cons_succ]
          refine wpAnyH_take (i := 7) (oi := ⟨_, _, _, _, _, _⟩) (v := .pointer (some ⟨g, j * 2, none⟩)) rfl (by kernel_rfl) (by kernel_rfl) (by kernel_rfl) (fun _ _ _ h => h) (Or.inl ⟨by rfl, fun w' _ => by go_simp⟩) hH ?_
          simp only [Act.put, List.setIfInBounds_toArray, List.set_cons_zero, List.set_cons_succ]
          refine wpAnyH_take (i := 8) (oi := ⟨_, _, _, _, _, _⟩) (v := .agg #[.string tn, .int .i64 ta]) rfl (by kernel_rfl) (by kernel_rfl) (by kernel_rfl) (fun _ _ _ h => h) (Or.inl ⟨by rfl, fun w' h => by obtain ⟨y0, y1⟩ := (PRow.later (Hid.out HRW).1 h).2 _ _ (Hid.out HRW).2; simp only [Nat.zero_add] at y0 y1; clear h; go_simp⟩) hH ?_
          simp only [Act.put, List.setIfInBounds_toArray, List.set_cons_zero, List.set_cons_succ]
          refine wpAnyH_take (i := 9) (oi := ⟨_, _, _, _, _, _⟩) (v := .agg #[.string pn, .int .i64 pa]) rfl (by kernel_rfl) (by kernel_rfl) (by kernel_rfl) (fun _ _ _ h => h) (Or.inl ⟨by rfl, fun w' h => by have hc := CBlk.later (Hid.out HBX) h; have y0 : w'.cell? ⟨w.heap.size, 0, none⟩ = some (.string pn) := cell_of_row _ _ _ _ _ _ hc; have y1 : w'.cell? ⟨w.heap.size, 1, none⟩ = some (.int .i64 pa) := cell_of_row _ _ _ _ _ _ hc; clear h hc; go_simp⟩) hH ?_
          simp only [Act.put, List.setIfInBounds_toArray, List.set_cons_zero, List.set_cons_succ]
          refine wpAnyH_ready (rs := [10]) (by kernel_rfl) (by simp) ?_
          refine (AllReadyH.cons (o := ⟨_, _, _, _, _, _⟩) rfl (fun K hK => ?_) AllReadyH.nil)
          go_simp
          refine (HAH.out V).mono ?_
          rintro e V1 ⟨rfl, hb⟩
          refine hK.out _ _ (below_step hH hb) (fun hH => ?_)
          clear hK K hb
          refine wpAnyH_take (i := 11) (oi := ⟨_, _, _, _, _, _⟩) (v := .bool false) rfl (by kernel_rfl) (by kernel_rfl) (by kernel_rfl) (fun _ _ _ h => h) (Or.inl ⟨by rfl, fun w' _ => by go_simp⟩) hH ?_
          simp only [Act.put, List.setIfInBounds_toArray, List.set_cons_zero, List.set_cons_succ]
          refine wpAnyH_done (by kernel_rfl) ?_ _
          have HW : Hid (Below wr.heap.size wr V1) := hH
          clear hH
          have HRW1 : Hid (PRow V1 g 0 l ∧ l[j]? = some ⟨tn, ta⟩) := ⟨HRW.out.1.later HW.out, HRW.out.2⟩
          have HBX1 : Hid (CBlk V1 w.heap.size #[.string pn, .int .i64 pa] 61) := HBX.out.later HW.out
          have hgw1 : g < V1.heap.size := by have := HW.out.size; omega
          go_upto_region 4 with fail
          refine wp_region_held_drew (S := fun w' => Below V1.heap.size V1 w') (by kernel_rfl) (Below.refl _ _).drew (fun hH => ?_)
          revert hH
          generalize V1.drew = V2
          intro hH
          refine wpAnyH_take (i := 0) (oi := ⟨_, _, _, _, _, _⟩) (v := .int .i64 (j : Int)) rfl (by kernel_rfl) (by kernel_rfl) (by kernel_rfl) (fun _ _ _ h => h) (Or.inl ⟨by rfl, fun w' _ => by go_simp⟩) hH ?_
          simp only [Act.put, List.setIfInBounds_toArray, List.set_cons_zero, List.set_cons_succ]
          refine wpAnyH_take (i := 1) (oi := ⟨_, _, _, _, _, _⟩) (v := .slice (some ⟨g, 0, none⟩) l.length cap) rfl (by kernel_rfl) (by kernel_rfl) (by kernel_rfl) (fun _ _ _ h => h) (Or.inl ⟨by rfl, fun w' _ => by go_simp⟩) hH ?_
          simp only [Act.put, List.setIfInBounds_toArray, List.set_cons_zero, List.set_cons_succ]
          refine wpAnyH_take (i := 2) (oi := ⟨_, _, _, _, _, _⟩) (v := .int .i64 (l.length : Int)) rfl (by kernel_rfl) (by kernel_rfl) (by kernel_rfl) (fun _ _ _ h => h) (Or.inl ⟨by rfl, fun w' _ => by go_simp⟩) hH ?_
          simp only [Act.put, List.setIfInBounds_toArray, List.set_cons_zero, List.set_cons_succ]
          refine wpAnyH_take (i := 3) (oi := ⟨_, _, _, _, _, _⟩) (v := .bool true) rfl (by kernel_rfl) (by kernel_rfl) (by kernel_rfl) (fun _ _ _ h => h) (Or.inl ⟨by rfl, fun w' _ => by go_simp⟩) hH ?_
          simp only [Act.put, List.setIfInBounds_toArray, List.set_cons_zero, List.set_cons_succ]
          refine wpAnyH_take (i := 4) (oi := ⟨_, _, _, _, _, _⟩) (v := .bool true) rfl (by kernel_rfl) (by kernel_rfl) (by kernel_rfl) (fun _ _ _ h => h) (Or.inl ⟨by rfl, fun w' _ => by go_simp⟩) hH ?_
          simp only [Act.put, List.setIfInBounds_toArray, List.set_cons_zero, List.set_cons_succ]
          refine wpAnyH_take (i := 5) (oi := ⟨_, _, _, _, _, _⟩) (v := .slice (some ⟨g, 0, none⟩) l.length cap) rfl (by kernel_rfl) (by kernel_rfl) (by kernel_rfl) (fun _ _ _ h => h) (Or.inl ⟨by rfl, fun w' _ => by go_simp⟩) hH ?_
          simp only [Act.put, List.setIfInBounds_toArray, List.set_cons_zero, List.set_cons_succ]
          refine wpAnyH_take (i := 6) (oi := ⟨_, _, _, _, _, _⟩) (v := .int .i64 (j : Int)) rfl (by kernel_rfl) (by kernel_rfl) (by kernel_rfl) (fun _ _ _ h => h) (Or.inl ⟨by rfl, fun w' _ => by go_simp⟩) hH ?_
          simp only [Act.put, List.setIfInBounds_toArray, List.set_cons_zero, List.set_cons_succ]
          refine wpAnyH_take (i := 7) (oi := ⟨_, _, _, _, _, _⟩) (v := .pointer (some ⟨g, j * 2, none⟩)) rfl (by kernel_rfl) (by kernel_rfl) (by kernel_rfl) (fun _ _ _ h => h) (Or.inl ⟨by rfl, fun w' _ => by go_simp⟩) hH ?_
          simp only [Act.put, List.setIfInBounds_toArray, List.set_cons_zero, List.set_cons_succ]
          refine wpAnyH_take (i := 8) (oi := ⟨_, _, _, _, _, _⟩) (v := .agg #[.string tn, .int .i64 ta]) rfl (by kernel_rfl) (by kernel_rfl) (by kernel_rfl) (fun _ _ _ h => h) (Or.inl ⟨by rfl, fun w' h => by obtain ⟨y0, y1⟩ := (PRow.later (Hid.out HRW1).1 h).2 _ _ (Hid.out HRW1).2; simp only [Nat.zero_add] at y0 y1; clear h; go_simp⟩) hH ?_
          simp only [Act.put, List.setIfInBounds_toArray, List.set_cons_zero, List.set_cons_succ]
          refine wpAnyH_take (i := 9) (oi := ⟨_, _, _, _, _, _⟩) (v := .agg #[.string pn, .int .i64 pa]) rfl (by kernel_rfl) (by kernel_rfl) (by kernel_rfl) (fun _ _ _ h => h) (Or.inl ⟨by rfl, fun w' h => by have hc := CBlk.later (Hid.out HBX1) h; have y0 : w'.cell? ⟨w.heap.size, 0, none⟩ = some (.string pn) := cell_of_row _ _ _ _ _ _ hc; have y1 : w'.cell? ⟨w.heap.size, 1, none⟩ = some (.int .i64 pa) := cell_of_row _ _ _ _ _ _ hc; clear h hc; go_simp⟩) hH ?_
          simp only [Act.put, List.setIfInBounds_toArray, List.set_cons_zero, List.set_cons_succ]
          refine wpAnyH_take (i := 10) (oi := ⟨_, _, _, _, _, _⟩) (v := .bool true) rfl (by kernel_rfl) (by kernel_rfl) (by kernel_rfl) (fun _ _ _ h => h) (Or.inl ⟨by rfl, fun w' _ => by obtain ⟨h1, h2⟩ := Hid.out HQE; go_simp⟩) hH ?_
          simp only [Act.put, List.setIfInBounds_toArray, List.set_cons_zero, List.set_cons_succ]
          refine wpAnyH_take (i := 11) (oi := ⟨_, _, _, _, _, _⟩) (v := .bool true) rfl (by kernel_rfl) (by kernel_rfl) (by kernel_rfl) (fun _ _ _ h => h) (Or.inl ⟨by rfl, fun w' _ => by go_simp⟩) hH ?_
          simp only [Act.put, List.setIfInBounds_toArray, List.set_cons_zero, List.set_cons_succ]
          refine wpAnyH_done (by kernel_rfl) ?_ _
          have HW2 : Hid (Below V1.heap.size V1 V2) := hH
          clear hH
          have HX : Hid (Below w.heap.size w V2) := HB0.out.trans ((below_step HB.out (below_step HW.out HW2.out)).mono HB0.out.size)
          go_wp2
          go_ret
          exact ins_mk (HO.out _ HX.out) HFIN.out (by omega) HX.out
        · have HFIN : Hid (RiseOf cmpP (l.take j ++ [⟨pn, pa⟩] ++ l.drop j) (l ++ [⟨pn, pa⟩])) := HFY.out j HAH0.out (fun x hx => by
            rw [ht] at hx; cases hx
            have h1 := ord_pd.neg t ⟨pn, pa⟩
            have h2 : ¬ cmpP t ⟨pn, pa⟩ = 0 := fun e => heq (ord_pd.zero _ _ e)
            omega)
          have HQE : Hid (t.nm.toList = pn.toList → ¬ t.ar = pa) := fun h1 h2 => heq (Pd.ext' (toList_inj h1) h2)
          clear heq ht hge
          obtain ⟨tn, ta⟩ := t
          have HQE : Hid (tn.toList = pn.toList → ¬ ta = pa) := HQE.out
          go_upto_region 2 with fail
          refine wp_region_held_drew (S := fun w' => Below wr.heap.size wr w') (by kernel_rfl) (Below.refl _ _).drew (fun hH => ?_)
          revert hH
          generalize wr.drew = V
          intro hH
          refine wpAnyH_take (i := 0) (oi := ⟨_, _, _, _, _, _⟩) (v := .int .i64 (j : Int)) rfl (by kernel_rfl) (by kernel_rfl) (by kernel_rfl) (fun _ _ _ h => h) (Or.inl ⟨by rfl, fun w' _ => by go_simp⟩) hH ?_
          simp only [Act.put, List.setIfInBounds_toArray, List.set_cons_zero, List.set_cons_succ]
          refine wpAnyH_take (i := 1) (oi := ⟨_, _, _, _, _, _⟩) (v := .slice (some ⟨g, 0, none⟩) l.length cap) rfl (by kernel_rfl) (by kernel_rfl) (by kernel_rfl) (fun _ _ _ h => h) (Or.inl ⟨by rfl, fun w' _ => by go_simp⟩) hH ?_
          simp only [Act.put, List.setIfInBounds_toArray, List.set_cons_zero, List.set_cons_succ]
          refine wpAnyH_take (i := 2) (oi := ⟨_, _, _, _, _, _⟩) (v := .int .i64 (l.length : Int)) rfl (by kernel_rfl) (by kernel_rfl) (by kernel_rfl) (fun _ _ _ h => h) (Or.inl ⟨by rfl, fun w' _ => by go_simp⟩) hH ?_
          simp only [Act.put, List.setIfInBounds_toArray, List.set_cons_zero, List.set_cons_succ]
          refine wpAnyH_take (i := 3) (oi := ⟨_, _, _, _, _, _⟩) (v := .bool true) rfl (by kernel_rfl) (by kernel_rfl) (by kernel_rfl) (fun _ _ _ h => h) (Or.inl ⟨by rfl, fun w' _ => by go_simp⟩) hH ?_
          simp only [Act.put, List.setIfInBounds_toArray, List.set_cons_zero, List.set_cons_succ]
          refine wpAnyH_take (i := 4) (oi := ⟨_, _, _, _, _, _⟩) (v := .bool true) rfl (by kernel_rfl) (by kernel_rfl) (by kernel_rfl) (fun _ _ _ h => h) (Or.inl ⟨by rfl, fun w' _ => by go_simp⟩) hH ?_
          simp only [Act.put, List.setIfInBounds_toArray, List.set_cons_zero, List.set_cons_succ]
          refine wpAnyH_take (i := 5) (oi := ⟨_, _, _, _, _, _⟩) (v := .slice (some ⟨g, 0, none⟩) l.length cap) rfl (by kernel_rfl) (by kernel_rfl) (by kernel_rfl) (fun _ _ _ h => h) (Or.inl ⟨by rfl, fun w' _ => by go_simp⟩) hH ?_
          simp only [Act.put, List.setIfInBounds_toArray, List.set_cons_zero, List.set_cons_succ]
          refine wpAnyH_take (i := 6) (oi := ⟨_, _, _, _, _, _⟩) (v := .int .i64 (j : Int)) rfl (by kernel_rfl) (by kernel_rfl) (by kernel_rfl) (fun _ _ _ h => h) (Or.inl ⟨by rfl, fun w' _ => by go_simp⟩) hH ?_
          simp only [Act.put, List.setIfInBounds_toArray, List.set_cons_zero, List.set_cons_succ]
          refine wpAnyH_take (i := 7) (oi := ⟨_, _, _, _, _, _⟩) (v := .pointer (some ⟨g, j * 2, none⟩)) rfl (by kernel_rfl) (by kernel_rfl) (by kernel_rfl) (fun _ _ _ h => h) (Or.inl ⟨by rfl, fun w' _ => by go_simp⟩) hH ?_
          simp only [Act.put, List.setIfInBounds_toArray, List.set_cons_zero, List.set_cons_succ]
          refine wpAnyH_take (i := 8) (oi := ⟨_, _, _, _, _, _⟩) (v := .agg #[.string tn, .int .i64 ta]) rfl (by kernel_rfl) (by kernel_rfl) (by kernel_rfl) (fun _ _ _ h => h) (Or.inl ⟨by rfl, fun w' h => by obtain ⟨y0, y1⟩ := (PRow.later (Hid.out HRW).1 h).2 _ _ (Hid.out HRW).2; simp only [Nat.zero_add] at y0 y1; clear h; go_simp⟩) hH ?_
          simp only [Act.put, List.setIfInBounds_toArray, List.set_cons_zero, List.set_cons_succ]
          refine wpAnyH_take (i := 9) (oi := ⟨_, _, _, _, _, _⟩) (v := .agg #[.string pn, .int .i64 pa]) rfl (by kernel_rfl) (by kernel_rfl) (by kernel_rfl) (fun _ _ _ h => h) (Or.inl ⟨by rfl, fun w' h => by have hc := CBlk.later (Hid.out HBX) h; have y0 : w'.cell? ⟨w.heap.size, 0, none⟩ = some (.string pn) := cell_of_row _ _ _ _ _ _ hc; have y1 : w'.cell? ⟨w.heap.size, 1, none⟩ = some (.int .i64 pa) := cell_of_row _ _ _ _ _ _ hc; clear h hc; go_simp⟩) hH ?_
          simp only [Act.put, List.setIfInBounds_toArray, List.set_cons_zero, List.set_cons_succ]
          refine wpAnyH_ready (rs := [10]) (by kernel_rfl) (by simp) ?_
          refine (AllReadyH.cons (o := ⟨_, _, _, _, _, _⟩) rfl (fun K hK => ?_) AllReadyH.nil)
          go_simp
          refine (HAH.out V).mono ?_
          rintro e V1 ⟨rfl, hb⟩
          refine hK.out _ _ (below_step hH hb) (fun hH => ?_)
          clear hK K hb
          refine wpAnyH_take (i := 11) (oi := ⟨_, _, _, _, _, _⟩) (v := .bool false) rfl (by kernel_rfl) (by kernel_rfl) (by kernel_rfl) (fun _ _ _ h => h) (Or.inl ⟨by rfl, fun w' _ => by go_simp⟩) hH ?_
          simp only [Act.put, List.setIfInBounds_toArray, List.set_cons_zero, List.set_cons_succ]
          refine wpAnyH_done (by kernel_rfl) ?_ _
          have HW : Hid (Below wr.heap.size wr V1) := hH
          clear hH
          have HRW1 : Hid (PRow V1 g 0 l ∧ l[j]? = some ⟨tn, ta⟩) := ⟨HRW.out.1.later HW.out, HRW.out.2⟩
          have HBX1 : Hid (CBlk V1 w.heap.size #[.string pn, .int .i64 pa] 61) := HBX.out.later HW.out
          have hgw1 : g < V1.heap.size := by have := HW.out.size; omega
          go_upto_region 4 with fail
          refine wp_region_held_drew (S := fun w' => Below V1.heap.size V1 w') (by kernel_rfl) (Below.refl _ _).drew (fun hH => ?_)
          revert hH
          generalize V1.drew = V2
          intro hH
          refine wpAnyH_take (i := 0) (oi := ⟨_, _, _, _, _, _⟩) (v := .int .i64 (j : Int)) rfl (by kernel_rfl) (by kernel_rfl) (by kernel_rfl) (fun _ _ _ h => h) (Or.inl ⟨by rfl, fun w' _ => by go_simp⟩) hH ?_
          simp only [Act.put, List.setIfInBounds_toArray, List.set_cons_zero, List.set_cons_succ]
          refine wpAnyH_take (i := 1) (oi := ⟨_, _, _, _, _, _⟩) (v := .slice (some ⟨g, 0, none⟩) l.length cap) rfl (by kernel_rfl) (by kernel_rfl) (by kernel_rfl) (fun _ _ _ h => h) (Or.inl ⟨by rfl, fun w' _ => by go_simp⟩) hH ?_
          simp only [Act.put, List.setIfInBounds_toArray, List.set_cons_zero, List.set_cons_succ]
          refine wpAnyH_take (i := 2) (oi := ⟨_, _, _, _, _, _⟩) (v := .int .i64 (l.length : Int)) rfl (by kernel_rfl) (by kernel_rfl) (by kernel_rfl) (fun _ _ _ h => h) (Or.inl ⟨by rfl, fun w' _ => by go_simp⟩) hH ?_
          simp only [Act.put, List.setIfInBounds_toArray, List.set_cons_zero, List.set_cons_succ]
          refine wpAnyH_take (i := 3) (oi := ⟨_, _, _, _, _, _⟩) (v := .bool true) rfl (by kernel_rfl) (by kernel_rfl) (by kernel_rfl) (fun _ _ _ h => h) (Or.inl ⟨by rfl, fun w' _ => by go_simp⟩) hH ?_
          simp only [Act.put, List.setIfInBounds_toArray, List.set_cons_zero, List.set_cons_succ]
          refine wpAnyH_take (i := 4) (oi := ⟨_, _, _, _, _, _⟩) (v := .bool true) rfl (by kernel_rfl) (by kernel_rfl) (by kernel_rfl) (fun _ _ _ h => h) (Or.inl ⟨by rfl, fun w' _ => by go_simp⟩) hH ?_
          simp only [Act.put, List.setIfInBounds_toArray, List.set_cons_zero, List.set_cons_succ]
          refine wpAnyH_take (i := 5) (oi := ⟨_, _, _, _, _, _⟩) (v := .slice (some ⟨g, 0, none⟩) l.length cap) rfl (by kernel_rfl) (by kernel_rfl) (by kernel_rfl) (fun _ _ _ h => h) (Or.inl ⟨by rfl, fun w' _ => by go_simp⟩) hH ?_
          simp only [Act.put, List.setIfInBounds_toArray, List.set_cons_zero, List.set_cons_succ]
          refine wpAnyH_take (i := 6) (oi := ⟨_, _, _, _, _, _⟩) (v := .int .i64 (j : Int)) rfl (by kernel_rfl) (by kernel_rfl) (by kernel_rfl) (fun _ _ _ h => h) (Or.inl ⟨by rfl, fun w' _ => by go_simp⟩) hH ?_
          simp only [Act.put, List.setIfInBounds_toArray, List.set_cons_zero, List.set_cons_succ]
          refine wpAnyH_take (i := 7) (oi := ⟨_, _, _, _, _, _⟩) (v := .pointer (some ⟨g, j * 2, none⟩)) rfl (by kernel_rfl) (by kernel_rfl) (by kernel_rfl) (fun _ _ _ h => h) (Or.inl ⟨by rfl, fun w' _ => by go_simp⟩) hH ?_
          simp only [Act.put, List.setIfInBounds_toArray, List.set_cons_zero, List.set_cons_succ]
          refine wpAnyH_take (i := 8) (oi := ⟨_, _, _, _, _, _⟩) (v := .agg #[.string tn, .int .i64 ta]) rfl (by kernel_rfl) (by kernel_rfl) (by kernel_rfl) (fun _ _ _ h => h) (Or.inl ⟨by rfl, fun w' h => by obtain ⟨y0, y1⟩ := (PRow.later (Hid.out HRW1).1 h).2 _ _ (Hid.out HRW1).2; simp only [Nat.zero_add] at y0 y1; clear h; go_simp⟩) hH ?_
          simp only [Act.put, List.setIfInBounds_toArray, List.set_cons_zero, List.set_cons_succ]
          refine wpAnyH_take (i := 9) (oi := ⟨_, _, _, _, _, _⟩) (v := .agg #[.string pn, .int .i64 pa]) rfl (by kernel_rfl) (by kernel_rfl) (by kernel_rfl) (fun _ _ _ h => h) (Or.inl ⟨by rfl, fun w' h => by have hc := CBlk.later (Hid.out HBX1) h; have y0 : w'.cell? ⟨w.heap.size, 0, none⟩ = some (.string pn) := cell_of_row _ _ _ _ _ _ hc; have y1 : w'.cell? ⟨w.heap.size, 1, none⟩ = some (.int .i64 pa) := cell_of_row _ _ _ _ _ _ hc; clear h hc; go_simp⟩) hH ?_
          simp only [Act.put, List.setIfInBounds_toArray, List.set_cons_zero, List.set_cons_succ]
          refine wpAnyH_take (i := 10) (oi := ⟨_, _, _, _, _, _⟩) (v := .bool false) rfl (by kernel_rfl) (by kernel_rfl) (by kernel_rfl) (fun _ _ _ h => h) (Or.inl ⟨by rfl, fun w' _ => by go_simp; exact Hid.out HQE⟩) hH ?_
          simp only [Act.put, List.setIfInBounds_toArray, List.set_cons_zero, List.set_cons_succ]
          refine wpAnyH_take (i := 11) (oi := ⟨_, _, _, _, _, _⟩) (v := .bool false) rfl (by kernel_rfl) (by kernel_rfl) (by kernel_rfl) (fun _ _ _ h => h) (Or.inl ⟨by rfl, fun w' _ => by go_simp⟩) hH ?_
          simp only [Act.put, List.setIfInBounds_toArray, List.set_cons_zero, List.set_cons_succ]
          refine wpAnyH_done (by kernel_rfl) ?_ _
          have HW2 : Hid (Below V1.heap.size V1 V2) := hH
          clear hH
          have HX : Hid (Below w.heap.size w V2) := HB0.out.trans ((below_step HB.out (below_step HW.out HW2.out)).mono HB0.out.size)
          have HBX2 : Hid (CBlk V2 w.heap.size #[.string pn, .int .i64 pa] 61) := HBX1.out.later HW2.out
          have HXZ : Hid (w.heap.size + 1 ≤ V2.heap.size) := by have h1 := HB.out.size; have h2 := HW.out.size; have h3 := HW2.out.size; have h4 := HZ0.out; show _ ≤ _; omega
          have ij : (j : Int) ≤ (cap : Int) := by omega
          have ij2 : (j : Int) ≤ (l.length : Int) := by omega
          go_upto_region 7 with fail
          obtain ⟨z, hz⟩ : ∃ z : Value, z = .slice none 0 0 := ⟨_, rfl⟩
          have HNIL : Hid (∀ Y : World, OwnP Y (w.heap.size + 1) z []) := fun Y => by rw [hz]; exact ownP_nil _ _
          rw [← hz]
          clear hz
          go_wp2_with (first
            | (at_builtin; refine app_preds rfl _ _ rfl (w.heap.size + 1) z [] (by rfl) (HNIL.out _) _ (l.take j) (by rfl) (psp_take (HO.out _ HX.out) (by omega)) (by rw [List.length_take, List.length_nil]; omega) HXZ.out ?_; intro v1 w1 hown hb1 hg1; rw [List.nil_append] at hown; have HO1 : Hid (OwnP w1 (w.heap.size + 1) v1 (l.take j)) := hown; have HX1 : Hid (Below w.heap.size w w1) := HX.out.trans (hb1.mono (by omega)); have HC1 : Hid (CBlk w1 w.heap.size #[.string pn, .int .i64 pa] 61) := (hb1.block _ (by omega)).trans HBX2.out; have HZ1 : Hid (w.heap.size + 1 ≤ w1.heap.size) := Nat.le_trans HXZ.out hb1.size; have y0 : w1.cell? ⟨w.heap.size, 0, none⟩ = some (.string pn) := cell_of_row _ _ _ _ _ _ HC1.out; have y1 : w1.cell? ⟨w.heap.size, 1, none⟩ = some (.int .i64 pa) := cell_of_row _ _ _ _ _ _ HC1.out; clear hown hb1 hg1 HNIL)
            | (at_builtin; (refine app_preds rfl _ _ rfl (w.heap.size + 1) v1 (l.take j) (by rfl) (HO1.out.later (below1 _ _)) _ [⟨pn, pa⟩] (by rfl) (PsP.one (CBlk.new _ _ _)) (by rw [List.length_take, List.length_singleton]; omega) (Nat.le_trans HZ1.out (by simp)) ?_; intro v2 w2 hown hb2 hg2; have HO2 : Hid (OwnP w2 (w.heap.size + 1) v2 (l.take j ++ [⟨pn, pa⟩])) := hown; have HX2 : Hid (Below w.heap.size w w2) := (below_step HX1.out (below1 _ _)).trans (hb2.mono (by omega)); have HZ2 : Hid (w.heap.size + 1 ≤ w2.heap.size) := (by show w.heap.size + 1 ≤ w2.heap.size; have h1 := HZ1.out; have h2 := hb2.size; simp at h2; omega); clear hown hb2 hg2))
            | (at_builtin; (refine app_preds rfl _ _ rfl (w.heap.size + 1) v2 (l.take j ++ [⟨pn, pa⟩]) (by rfl) HO2.out _ (l.drop j) (by rfl) (psp_drop (HO.out _ HX2.out)) (by rw [List.length_append, List.length_take, List.length_singleton, List.length_drop]; omega) HZ2.out ?_; intro v3 w3 hown hb3 hg3; have HO3 : Hid (OwnP w3 (w.heap.size + 1) v3 (l.take j ++ [⟨pn, pa⟩] ++ l.drop j)) := hown; have HX3 : Hid (Below w.heap.size w w3) := HX2.out.trans (hb3.mono (by omega)); clear hown hb3 hg3)))
          all_goals go_ret
          all_goals exact ins_mk (HO3.out.mono (by omega)) HFIN.out (by simp only [List.length_append, List.length_take, List.length_drop, List.length_singleton]; omega) HX3.out
    · obtain rfl : j = l.length := by omega
      have k1 : ¬ (l.length : Int) < (l.length : Int) := by omega
      have HFIN : Hid (RiseOf cmpP (l.take l.length ++ [⟨pn, pa⟩] ++ []) (l ++ [⟨pn, pa⟩])) := by
        have := HFY.out _ HAH0.out (fun x hx => by rw [List.getElem?_eq_none (Nat.le_refl _)] at hx; cases hx)
        rw [List.drop_length] at this; exact this
      go_upto_region 2 with fail
      refine wp_region_held_drew (S := fun w' => Below wr.heap.size wr w') (by kernel_rfl) (Below.refl _ _).drew (fun hH => ?_)
      revert hH
      generalize wr.drew = V
      intro hH
      refine wpAnyH_take (i := 0) (oi := ⟨_, _, _, _, _, _⟩) (v := .int .i64 (l.length : Int)) rfl (by kernel_rfl) (by kernel_rfl) (by kernel_rfl) (fun _ _ _ h => h) (Or.inl ⟨by rfl, fun w' _ => by go_simp⟩) hH ?_
      simp only [Act.put, List.setIfInBounds_toArray, List.set_cons_zero, List.set_cons_succ]
      refine wpAnyH_take (i := 1) (oi := ⟨_, _, _, _, _, _⟩) (v := .slice (some ⟨g, 0, none⟩) l.length cap) rfl (by kernel_rfl) (by kernel_rfl) (by kernel_rfl) (fun _ _ _ h => h) (Or.inl ⟨by rfl, fun w' _ => by go_simp⟩) hH ?_
      simp only [Act.put, List.setIfInBounds_toArray, List.set_cons_zero, List.set_cons_succ]
      refine wpAnyH_take (i := 2) (oi := ⟨_, _, _, _, _, _⟩) (v := .int .i64 (l.length : Int)) rfl (by kernel_rfl) (by kernel_rfl) (by kernel_rfl) (fun _ _ _ h => h) (Or.inl ⟨by rfl, fun w' _ => by go_simp⟩) hH ?_
      simp only [Act.put, List.setIfInBounds_toArray, List.set_cons_zero, List.set_cons_succ]
      refine wpAnyH_take (i := 3) (oi := ⟨_, _, _, _, _, _⟩) (v := .bool false) rfl (by kernel_rfl) (by kernel_rfl) (by kernel_rfl) (fun _ _ _ h => h) (Or.inl ⟨by rfl, fun w' _ => by go_simp⟩) hH ?_
      simp only [Act.put, List.setIfInBounds_toArray, List.set_cons_zero, List.set_cons_succ]
      refine wpAnyH_take (i := 4) (oi := ⟨_, _, _, _, _, _⟩) (v := .bool false) rfl (by kernel_rfl) (by kernel_rfl) (by kernel_rfl) (fun _ _ _ h => h) (Or.inl ⟨by rfl, fun w' _ => by go_simp⟩) hH ?_
      simp only [Act.put, List.setIfInBounds_toArray, List.set_cons_zero, List.set_cons_succ]
      refine wpAnyH_take (i := 5) (oi := ⟨_, _, _, _, _, _⟩) (v := undef) rfl (by kernel_rfl) (by kernel_rfl) (by kernel_rfl) (fun _ _ _ h => h) (Or.inr ⟨by rfl, rfl⟩) hH ?_
      simp only [Act.put, List.setIfInBounds_toArray, List.set_cons_zero, List.set_cons_succ]
      refine wpAnyH_take (i := 6) (oi := ⟨_, _, _, _, _, _⟩) (v := undef) rfl (by kernel_rfl) (by kernel_rfl) (by kernel_rfl) (fun _ _ _ h => h) (Or.inr ⟨by rfl, rfl⟩) hH ?_
      simp only [Act.put, List.setIfInBounds_toArray, List.set_cons_zero, List.set_cons_succ]
      refine wpAnyH_take (i := 7) (oi := ⟨_, _, _, _, _, _⟩) (v := undef) rfl (by kernel_rfl) (by kernel_rfl) (by kernel_rfl) (fun _ _ _ h => h) (Or.inr ⟨by rfl, rfl⟩) hH ?_
      simp only [Act.put, List.setIfInBounds_toArray, List.set_cons_zero, List.set_cons_succ]
      refine wpAnyH_take (i := 8) (oi := ⟨_, _, _, _, _, _⟩) (v := undef) rfl (by kernel_rfl) (by kernel_rfl) (by kernel_rfl) (fun _ _ _ h => h) (Or.inr ⟨by rfl, rfl⟩) hH ?_
      simp only [Act.put, List.setIfInBounds_toArray, List.set_cons_zero, List.set_cons_succ]
      refine wpAnyH_take (i := 9) (oi := ⟨_, _, _, _, _, _⟩) (v := undef) rfl (by kernel_rfl) (by kernel_rfl) (by kernel_rfl) (fun _ _ _ h => h) (Or.inr ⟨by rfl, rfl⟩) hH ?_
      simp only [Act.put, List.setIfInBounds_toArray, List.set_cons_zero, List.set_cons_succ]
      refine wpAnyH_take (i := 10) (oi := ⟨_, _, _, _, _, _⟩) (v := undef) rfl (by kernel_rfl) (by kernel_rfl) (by kernel_rfl) (fun _ _ _ h => h) (Or.inr ⟨by rfl, rfl⟩) hH ?_
      simp only [Act.put, List.setIfInBounds_toArray, List.set_cons_zero, List.set_cons_succ]
      refine wpAnyH_take (i := 11) (oi := ⟨_, _, _, _, _, _⟩) (v := .bool false) rfl (by kernel_rfl) (by kernel_rfl) (by kernel_rfl) (fun _ _ _ h => h) (Or.inl ⟨by rfl, fun w' _ => by go_simp⟩) hH ?_
      simp only [Act.put, List.setIfInBounds_toArray, List.set_cons_zero, List.set_cons_succ]
      refine wpAnyH_done (by kernel_rfl) ?_ _
      have HW : Hid (Below wr.heap.size wr V) := hH
      clear hH
      go_upto_region 4 with fail
      refine wp_region_held_drew (S := fun w' => Below V.heap.size V w') (by kernel_rfl) (Below.refl _ _).drew (fun hH => ?_)
      revert hH
      generalize V.drew = V2
      intro hH
      refine wpAnyH_take (i := 0) (oi := ⟨_, _, _, _, _, _⟩) (v := .int .i64 (l.length : Int)) rfl (by kernel_rfl) (by kernel_rfl) (by kernel_rfl) (fun _ _ _ h => h) (Or.inl ⟨by rfl, fun w' _ => by go_simp⟩) hH ?_
      simp only [Act.put, List.setIfInBounds_toArray, List.set_cons_zero, List.set_cons_succ]
      refine wpAnyH_take (i := 1) (oi := ⟨_, _, _, _, _, _⟩) (v := .slice (some ⟨g, 0, none⟩) l.length cap) rfl (by kernel_rfl) (by kernel_rfl) (by kernel_rfl) (fun _ _ _ h => h) (Or.inl ⟨by rfl, fun w' _ => by go_simp⟩) hH ?_
      simp only [Act.put, List.setIfInBounds_toArray, List.set_cons_zero, List.set_cons_succ]
      refine wpAnyH_take (i := 2) (oi := ⟨_, _, _, _, _, _⟩) (v := .int .i64 (l.length : Int)) rfl (by kernel_rfl) (by kernel_rfl) (by kernel_rfl) (fun _ _ _ h => h) (Or.inl ⟨by rfl, fun w' _ => by go_simp⟩) hH ?_
      simp only [Act.put, List.setIfInBounds_toArray, List.set_cons_zero, List.set_cons_succ]
      refine wpAnyH_take (i := 3) (oi := ⟨_, _, _, _, _, _⟩) (v := .bool false) rfl (by kernel_rfl) (by kernel_rfl) (by kernel_rfl) (fun _ _ _ h => h) (Or.inl ⟨by rfl, fun w' _ => by go_simp⟩) hH ?_
      simp only [Act.put, List.setIfInBounds_toArray, List.set_cons_zero, List.set_cons_succ]
      refine wpAnyH_take (i := 4) (oi := ⟨_, _, _, _, _, _⟩) (v := .bool false) rfl (by kernel_rfl) (by kernel_rfl) (by kernel_rfl) (fun _ _ _ h => h) (Or.inl ⟨by rfl, fun w' _ => by go_simp⟩) hH ?_
      simp only [Act.put, List.setIfInBounds_toArray, List.set_cons_zero, List.set_cons_succ]
      refine wpAnyH_take (i := 5) (oi := ⟨_, _, _, _, _, _⟩) (v := undef) rfl (by kernel_rfl) (by kernel_rfl) (by kernel_rfl) (fun _ _ _ h => h) (Or.inr ⟨by rfl, rfl⟩) hH ?_
      simp only [Act.put, List.setIfInBounds_toArray, List.set_cons_zero, List.set_cons_succ]
      refine wpAnyH_take (i := 6) (oi := ⟨_, _, _, _, _, _⟩) (v := undef) rfl (by kernel_rfl) (by kernel_rfl) (by kernel_rfl) (fun _ _ _ h => h) (Or.inr ⟨by rfl, rfl⟩) hH ?_
      simp only [Act.put, List.setIfInBounds_toArray, List.set_cons_zero, List.set_cons_succ]
      refine wpAnyH_take (i := 7) (oi := ⟨_, _, _, _, _, _⟩) (v := undef) rfl (by kernel_rfl) (by kernel_rfl) (by kernel_rfl) (fun _ _ _ h => h) (Or.inr ⟨by rfl, rfl⟩) hH ?_
      simp only [Act.put, List.setIfInBounds_toArray, List.set_cons_zero, List.set_cons_succ]
      refine wpAnyH_take (i := 8) (oi := ⟨_, _, _, _, _, _⟩) (v := undef) rfl (by kernel_rfl) (by kernel_rfl) (by kernel_rfl) (fun _ _ _ h => h) (Or.inr ⟨by rfl, rfl⟩) hH ?_
      simp only [Act.put, List.setIfInBounds_toArray, List.set_cons_zero, List.set_cons_succ]
      refine wpAnyH_take (i := 9) (oi := ⟨_, _, _, _, _, _⟩) (v := undef) rfl (by kernel_rfl) (by kernel_rfl) (by kernel_rfl) (fun _ _ _ h => h) (Or.inr ⟨by rfl, rfl⟩) hH ?_
      simp only [Act.put, List.setIfInBounds_toArray, List.set_cons_zero, List.set_cons_succ]
      refine wpAnyH_take (i := 10) (oi := ⟨_, _, _, _, _, _⟩) (v := undef) rfl (by kernel_rfl) (by kernel_rfl) (by kernel_rfl) (fun _ _ _ h => h) (Or.inr ⟨by rfl, rfl⟩) hH ?_
      simp only [Act.put, List.setIfInBounds_toArray, List.set_cons_zero, List.set_cons_succ]
      refine wpAnyH_take (i := 11) (oi := ⟨_, _, _, _, _, _⟩) (v := .bool false) rfl (by kernel_rfl) (by kernel_rfl) (by kernel_rfl) (fun _ _ _ h => h) (Or.inl ⟨by rfl, fun w' _ => by go_simp⟩) hH ?_
      simp only [Act.put, List.setIfInBounds_toArray, List.set_cons_zero, List.set_cons_succ]
      refine wpAnyH_done (by kernel_rfl) ?_ _
      have HW2 : Hid (Below V.heap.size V V2) := hH
      clear hH
      have HX : Hid (Below w.heap.size w V2) := HB0.out.trans ((below_step HB.out (below_step HW.out HW2.out)).mono HB0.out.size)
      have HBX2 : Hid (CBlk V2 w.heap.size #[.string pn, .int .i64 pa] 61) := (HBX.out.later HW.out).later HW2.out
      have HXZ : Hid (w.heap.size + 1 ≤ V2.heap.size) := by have h1 := HB.out.size; have h2 := HW.out.size; have h3 := HW2.out.size; have h4 := HZ0.out; show _ ≤ _; omega
      go_upto_region 7 with fail
      obtain ⟨z, hz⟩ : ∃ z : Value, z = .slice none 0 0 := ⟨_, rfl⟩
      have HNIL : Hid (∀ Y : World, OwnP Y (w.heap.size + 1) z []) := fun Y => by rw [hz]; exact ownP_nil _ _
      rw [← hz]
      clear hz
      go_wp2_with (first
        | (at_builtin; refine app_preds rfl _ _ rfl (w.heap.size + 1) z [] (by rfl) (HNIL.out _) _ (l.take l.length) (by rfl) (psp_take (HO.out _ HX.out) (by omega)) (by rw [List.length_take, List.length_nil]; omega) HXZ.out ?_; intro v1 w1 hown hb1 hg1; rw [List.nil_append] at hown; have HO1 : Hid (OwnP w1 (w.heap.size + 1) v1 (l.take l.length)) := hown; have HX1 : Hid (Below w.heap.size w w1) := HX.out.trans (hb1.mono (by omega)); have HC1 : Hid (CBlk w1 w.heap.size #[.string pn, .int .i64 pa] 61) := (hb1.block _ (by omega)).trans HBX2.out; have HZ1 : Hid (w.heap.size + 1 ≤ w1.heap.size) := Nat.le_trans HXZ.out hb1.size; have y0 : w1.cell? ⟨w.heap.size, 0, none⟩ = some (.string pn) := cell_of_row _ _ _ _ _ _ HC1.out; have y1 : w1.cell? ⟨w.heap.size, 1, none⟩ = some (.int .i64 pa) := cell_of_row _ _ _ _ _ _ HC1.out; clear hown hb1 hg1 HNIL)
        | (at_builtin; (refine app_preds rfl _ _ rfl (w.heap.size + 1) v1 (l.take l.length) (by rfl) (HO1.out.later (below1 _ _)) _ [⟨pn, pa⟩] (by rfl) (PsP.one (CBlk.new _ _ _)) (by rw [List.length_take, List.length_singleton]; omega) (Nat.le_trans HZ1.out (by simp)) ?_; intro v2 w2 hown hb2 hg2; have HO2 : Hid (OwnP w2 (w.heap.size + 1) v2 (l.take l.length ++ [⟨pn, pa⟩])) := hown; have HX2 : Hid (Below w.heap.size w w2) := (below_step HX1.out (below1 _ _)).trans (hb2.mono (by omega)); have HZ2 : Hid (w.heap.size + 1 ≤ w2.heap.size) := (by show w.heap.size + 1 ≤ w2.heap.size; have h1 := HZ1.out; have h2 := hb2.size; simp at h2; omega); clear hown hb2 hg2))
        | (at_builtin; (refine app_preds rfl _ _ rfl (w.heap.size + 1) v2 (l.take l.length ++ [⟨pn, pa⟩]) (by rfl) HO2.out _ [] (by rfl) (psp_if _ _ _ _ _) (by rw [List.length_append, List.length_take, List.length_singleton, List.length_nil]; omega) HZ2.out ?_; intro v3 w3 hown hb3 hg3; have HO3 : Hid (OwnP w3 (w.heap.size + 1) v3 (l.take l.length ++ [⟨pn, pa⟩] ++ [])) := hown; have HX3 : Hid (Below w.heap.size w w3) := HX2.out.trans (hb3.mono (by omega)); clear hown hb3 hg3)))
      all_goals go_ret
      all_goals exact ins_mk (HO3.out.mono (by omega)) HFIN.out (by simp only [List.length_append, List.length_take, List.length_nil, List.length_singleton]; omega) HX3.out
end Go.Proofs.YtdfgijdededolabGreatDoor
