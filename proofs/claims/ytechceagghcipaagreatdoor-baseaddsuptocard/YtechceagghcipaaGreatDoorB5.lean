import Derived.Test.YtechceagghcipaaGreatDoorAA0
import Derived.Test.YtechceagghcipaaGreatDoorE1
import Derived.Deep.RegionHeld3
import Derived.Deep.DrawnRows
namespace Go.Proofs.YtechceagghcipaaGreatDoor
open Go.RowKit
attribute [local go_sem ↓] Go.wp_at_zero Go.wp_at_succ

def fixOk (p a : List Tm) : Bool := (p.zip a).all fun x => x.1.var || decide (x.1 = x.2)
theorem five {w : World} {g : Nat} {a b c d f : Value} {t : TypeId} (h : w.heap[g]? = some (.cells #[a, b, c, d, f] t (0, 0))) :
  w.cell? ⟨g, 0, none⟩ = some a /\ w.cell? ⟨g, 1, none⟩ = some b /\ w.cell? ⟨g, 2, none⟩ = some c /\ w.cell? ⟨g, 3, none⟩ = some d /\ w.cell? ⟨g, 4, none⟩ = some f :=
 ⟨cell_of_row _ _ _ _ _ _ h, cell_of_row _ _ _ _ _ _ h, cell_of_row _ _ _ _ _ _ h, cell_of_row _ _ _ _ _ _ h, cell_of_row _ _ _ _ _ _ h⟩
theorem fix_step (p a : List Tm) (i : Nat) (x y : Tm) (hx : p[i]? = some x) (hy : a[i]? = some y) : fixOk (p.drop i) (a.drop i) = ((x.var || decide (x = y)) && fixOk (p.drop (i + 1)) (a.drop (i + 1))) := by
 have h1 := List.getElem?_eq_some_iff.1 hx
 have h2 := List.getElem?_eq_some_iff.1 hy
 obtain ⟨h1, rfl⟩ := h1
 obtain ⟨h2, rfl⟩ := h2
 rw [List.drop_eq_getElem_cons h1, List.drop_eq_getElem_cons h2, fixOk, List.zip_cons_cons, List.all_cons, fixOk]
theorem fix_end (p a : List Tm) (i : Nat) (h : p.length <= i) : fixOk (p.drop i) (a.drop i) = true := by
 rw [List.drop_eq_nil_of_le h]; rfl
theorem below_step {W w' w3 : World} (h : Below W.heap.size W w') (h3 : Below w'.heap.size w' w3) : Below W.heap.size W w3 := h.trans (h3.mono h.size)
theorem cell_step {w' w3 : World} {b o : Nat} {v : Value} (h3 : Below w'.heap.size w' w3) (hb : b < w'.heap.size) (hc : w'.cell? ⟨b, o, none⟩ = some v) : w3.cell? ⟨b, o, none⟩ = some v := by
 rw [h3.cell (p := ⟨b, o, none⟩) hb]; exact hc
theorem lt_step {w' w3 : World} {b : Nat} (h3 : Below w'.heap.size w' w3) (hb : b < w'.heap.size) : b < w3.heap.size := Nat.lt_of_lt_of_le hb h3.size
set_option maxHeartbeats 1000000 in
theorem swf_any (a b : At) (x y : Value) (w : World) (h : Ts w x a.args) (h' : Ts w y b.args) (hlen : a.args.length = b.args.length) :
  Calls Tryz.prog 85 #[a.v x, b.v y] w fun e w' => e = .returned (.bool (fixOk a.pl b.pl)) /\ Below w.heap.size w w' := by
 obtain ⟨⟨k, n, s⟩, nm, l⟩ := a
 obtain ⟨⟨k', n', s'⟩, nm', l'⟩ := b
 simp only at h h' hlen
 have HX : Hid (Ts w x l) := h
 have HY : Hid (Ts w y l') := h'
 have hl : l.length < 1000000000000000000 := by obtain ⟨_, _, _, hl, _⟩ := h; exact hl
 have HE : Hid (l.length = l'.length) := hlen
 obtain ⟨pl, hpl⟩ : ∃ pl, pl = (At.mk ⟨k, n, s⟩ nm l).pl := ⟨_, rfl⟩
 obtain ⟨pl', hpl'⟩ : ∃ pl', pl' = (At.mk ⟨k', n', s'⟩ nm' l').pl := ⟨_, rfl⟩
 have HP : Hid (pl = (At.mk ⟨k, n, s⟩ nm l).pl) := hpl
 have HP' : Hid (pl' = (At.mk ⟨k', n', s'⟩ nm' l').pl) := hpl'
 have hn : pl.length = l.length + 1 := by rw [hpl]; simp [At.pl]
 have hn' : pl'.length = l.length + 1 := by rw [hpl', hlen]; simp [At.pl]
 rw [<- hpl, <- hpl']
 have HN : Hid (pl.length = l.length + 1) := hn
 have HN' : Hid (pl'.length = l.length + 1) := hn'
 have hnb : pl.length < 2000000000000000000 := by omega
 clear h h' hlen hpl hpl' hn hn'
 go_enter Tryz.func85, Tryz.ntmps85
 go_wp2_with (go_at_call 50; refine (places_any ⟨⟨k, n, s⟩, nm, l⟩ _ _ (HX.out.later (below2 _ _ _))).mono ?_; rw [<- HP.out]; rintro e w1 ⟨rfl, hb1⟩)
 have hb0 : Below w.heap.size w w1 := (below2 _ _ _).trans (hb1.mono (by simp; omega))
 have g2 : w1.heap[w.heap.size]? = some (.cells #[.int .i64 k, .int .i64 n, .string s, .string nm, x] 27 (0, 0)) := (hb1.block _ (by simp; omega)).trans (heap_alloc2_old _ _ _)
 have g3 : w1.heap[w.heap.size + 1]? = some (.cells #[.int .i64 k', .int .i64 n', .string s', .string nm', y] 27 (0, 0)) := (hb1.block _ (by simp)).trans (heap_alloc2_new _ _ _)
 clear hb1
 go_loopw [9] (fun i wr => ∃ k : Nat, k <= pl.length /\ i = .int .i64 k /\ fixOk pl pl' = fixOk (pl.drop k) (pl'.drop k) /\ Below w.heap.size w wr /\ Below w1.heap.size w1 wr) (fun i _ => pl.length - (intOf i).toNat)
 case atStart => exact ⟨0, by omega, rfl, by simp, hb0, Below.refl _ _⟩
 case round =>
  obtain ⟨i, hi, rfl, hf, hbw, hb1⟩ := hrel
  have z1 : w.heap.size + 1 < w1.heap.size := (Array.getElem?_eq_some_iff.1 g3).1
  obtain ⟨p0, p1, p2, p3, p4⟩ := five ((hb1.block _ (by omega)).trans g2)
  obtain ⟨q0, q1, q2, q3, q4⟩ := five ((hb1.block _ z1).trans g3)
  have z2 : w.heap.size + 1 < wr.heap.size := Nat.lt_of_lt_of_le z1 hb1.size
  by_cases hlt : i < pl.length
  ·obtain ⟨t, ht⟩ : ∃ t, pl[i]? = some t := ⟨_, List.getElem?_eq_getElem hlt⟩
   obtain ⟨u, hu⟩ : ∃ u, pl'[i]? = some u := ⟨_, List.getElem?_eq_getElem (by have := HN.out; have := HN'.out; omega)⟩
   have HS : Hid (fixOk pl pl' = ((t.var || decide (t = u)) && fixOk (pl.drop (i + 1)) (pl'.drop (i + 1)))) := hf.trans (fix_step pl pl' i t u ht hu)
   have HT : Hid (pl[i]? = some t) := ht
   have HU : Hid (pl'[i]? = some u) := hu
   obtain ⟨tk, tn, ts⟩ := t
   obtain ⟨uk, un, us⟩ := u
   clear hf ht hu
   go_wp2_with (go_at_call 52; refine (place_any ⟨⟨k, n, s⟩, nm, l⟩ _ i ⟨tk, tn, ts⟩ (by rw [<- HP.out]; exact HT.out) _ (HX.out.later hbw)).mono ?_; rintro e w2 ⟨rfl, hb2⟩)
   have hbW : Below wr.heap.size wr (w2.alloc (.cells #[.int .i64 tk, .int .i64 tn, .string ts] 24)) := hb2.alloc hb2.size _
   have g6 := three (heap_alloc_new w2 (.cells #[.int .i64 tk, .int .i64 tn, .string ts] 24))
   obtain ⟨G, hG⟩ : ∃ G, G = w2.heap.size := ⟨_, rfl⟩
   have hGz : G < (w2.alloc (.cells #[.int .i64 tk, .int .i64 tn, .string ts] 24)).heap.size := by rw [hG]; simp
   rw [<- hG] at g6 ⊢
   revert g6 hbW hGz
   generalize w2.alloc (.cells #[.int .i64 tk, .int .i64 tn, .string ts] 24) = W
   rintro hbW ⟨r0, r1, r2, -, -, -⟩ hGz
   clear hb2 hG w2
   have hbW0 : Below w.heap.size w W := hbw.trans (hbW.mono hbw.size)
   have hbW1 : Below w1.heap.size w1 W := hb1.trans (hbW.mono hb1.size)
   rw [<- hbW.cell (p := ⟨w.heap.size + 1, _, none⟩) z2] at q0 q1 q2 q3 q4
   have zW : w.heap.size + 1 < W.heap.size := Nat.lt_of_lt_of_le z2 hbW.size
   clear p0 p1 p2 p3 p4
   have he := run_neq_tm ⟨tk, tn, ts⟩ ⟨uk, un, us⟩
   cases hv : Tm.var ⟨tk, tn, ts⟩
   ·have HV : Hid (Tm.var ⟨tk, tn, ts⟩ = false) := hv
    cases hd : decide (Tm.mk tk tn ts = Tm.mk uk un us)
    ·rw [hd] at he
     have HF : Hid (fixOk pl pl' = false) := by show fixOk pl pl' = false; rw [HS.out, hv, hd]; rfl
     clear hv hd
     go_region_held3 (fun w' => w'.cell? ⟨G, 0, none⟩ = some (.int .i64 tk) /\ w'.cell? ⟨G, 1, none⟩ = some (.int .i64 tn) /\ w'.cell? ⟨G, 2, none⟩ = some (.string ts) ∧
      w'.cell? ⟨w.heap.size + 1, 0, none⟩ = some (.int .i64 k') /\ w'.cell? ⟨w.heap.size + 1, 1, none⟩ = some (.int .i64 n') /\ w'.cell? ⟨w.heap.size + 1, 2, none⟩ = some (.string s') ∧
      w'.cell? ⟨w.heap.size + 1, 3, none⟩ = some (.string nm') /\ w'.cell? ⟨w.heap.size + 1, 4, none⟩ = some y /\ G < w'.heap.size /\ w.heap.size + 1 < w'.heap.size /\ Below W.heap.size W w')
     ((go_split_ands; refine ⟨?_, ?_, ?_, ?_, ?_, ?_, ?_, ?_, ?_, ?_, ?_⟩ <;> first | exact cell_step hb3 (by assumption) (by assumption) | exact lt_step hb3 (by assumption) | exact below_step (by assumption) hb3 | go_keep | exact (Below.refl _ _).drew))
     ((first
      | (go_at_call 51; refine (var_any ⟨tk, tn, ts⟩ _).mono ?_; rw [HV.out]; rintro e w3 ⟨rfl, hb3⟩)
      | (go_at_call 52; refine (place_any ⟨⟨k', n', s'⟩, nm', l'⟩ _ i ⟨uk, un, us⟩ (by rw [<- HP'.out]; exact HU.out) _ (by go_split_ands; exact HY.out.later (below_step hbW0 (by assumption)))).mono ?_; rintro e w3 ⟨rfl, hb3⟩)))
     go_wp2
     go_ret
     refine ⟨ret_b HF.out.symm, ?_⟩
     go_split_ands
     exact below_step hbW0 (by assumption)
    ·rw [hd] at he
     have HF : Hid (fixOk pl pl' = fixOk (pl.drop (i + 1)) (pl'.drop (i + 1))) := by show fixOk pl pl' = _; rw [HS.out, hv, hd]; rfl
     clear hv hd
     go_region_held3 (fun w' => w'.cell? ⟨G, 0, none⟩ = some (.int .i64 tk) /\ w'.cell? ⟨G, 1, none⟩ = some (.int .i64 tn) /\ w'.cell? ⟨G, 2, none⟩ = some (.string ts) ∧
      w'.cell? ⟨w.heap.size + 1, 0, none⟩ = some (.int .i64 k') /\ w'.cell? ⟨w.heap.size + 1, 1, none⟩ = some (.int .i64 n') /\ w'.cell? ⟨w.heap.size + 1, 2, none⟩ = some (.string s') ∧
      w'.cell? ⟨w.heap.size + 1, 3, none⟩ = some (.string nm') /\ w'.cell? ⟨w.heap.size + 1, 4, none⟩ = some y /\ G < w'.heap.size /\ w.heap.size + 1 < w'.heap.size /\ Below W.heap.size W w')
     ((go_split_ands; refine ⟨?_, ?_, ?_, ?_, ?_, ?_, ?_, ?_, ?_, ?_, ?_⟩ <;> first | exact cell_step hb3 (by assumption) (by assumption) | exact lt_step hb3 (by assumption) | exact below_step (by assumption) hb3 | go_keep | exact (Below.refl _ _).drew))
     ((first
      | (go_at_call 51; refine (var_any ⟨tk, tn, ts⟩ _).mono ?_; rw [HV.out]; rintro e w3 ⟨rfl, hb3⟩)
      | (go_at_call 52; refine (place_any ⟨⟨k', n', s'⟩, nm', l'⟩ _ i ⟨uk, un, us⟩ (by rw [<- HP'.out]; exact HU.out) _ (by go_split_ands; exact HY.out.later (below_step hbW0 (by assumption)))).mono ?_; rintro e w3 ⟨rfl, hb3⟩)))
     go_split_ands
     have hbn : Below W.heap.size W w3 := by assumption
     go_wp2
     go_roundw
     case rel => exact ⟨i + 1, by omega, by go_num, HF.out, below_step hbW0 hbn, below_step hbW1 hbn⟩
     case measure => simp [intOf]; omega
   ·have HV : Hid (Tm.var ⟨tk, tn, ts⟩ = true) := hv
    have HF : Hid (fixOk pl pl' = fixOk (pl.drop (i + 1)) (pl'.drop (i + 1))) := by show fixOk pl pl' = _; rw [HS.out, hv]; rfl
    clear hv
    refine wp_region_held_drew (S := fun w' => w'.cell? ⟨G, 0, none⟩ = some (.int .i64 tk) /\ w'.cell? ⟨G, 1, none⟩ = some (.int .i64 tn) /\ w'.cell? ⟨G, 2, none⟩ = some (.string ts) /\ G < w'.heap.size /\ Below W.heap.size W w') (by kernel_rfl) ⟨by simpa using r0, by simpa using r1, by simpa using r2, by simpa using hGz, (Below.refl _ _).drew⟩ (fun hHeld => ?_)
    refine wTk 0 (Tm.v ⟨tk, tn, ts⟩) rfl (by kernel_rfl) (fun _ _ _ h => h) (Or.inl ⟨by rfl, fun w h => by obtain ⟨a0, a1, a2, -⟩ := h; go_simp⟩) hHeld ?_
    simp only [wA8, wB8, wC8, wD8]
    refine wRd 1 (by kernel_rfl) rfl (fun K hK => ?_)
    go_simp
    refine (var_any ⟨tk, tn, ts⟩ _).mono ?_
    rw [HV.out]
    rintro e w3 ⟨rfl, hb3⟩
    obtain ⟨a0, a1, a2, a3, a4⟩ := hHeld
    refine hK.out _ _ ⟨cell_step hb3 a3 a0, cell_step hb3 a3 a1, cell_step hb3 a3 a2, lt_step hb3 a3, below_step a4 hb3⟩ (fun hHeld => ?_)
    clear hK K a0 a1 a2 a3 a4
    refine wTk 2 (.bool false) rfl (by kernel_rfl) (fun _ _ _ h => h) (Or.inl ⟨by rfl, fun w _ => by go_simp⟩) hHeld ?_
    simp only [wA8, wB8, wC8, wD8]
    refine wTk 3 (.bool false) rfl (by kernel_rfl) (fun _ _ _ h => h) (Or.inl ⟨by rfl, fun w _ => by go_simp⟩) hHeld ?_
    simp only [wA8, wB8, wC8, wD8]
    refine wTk 4 (undef) rfl (by kernel_rfl) (fun _ _ _ h => h) (Or.inr ⟨by rfl, rfl⟩) hHeld ?_
    simp only [wA8, wB8, wC8, wD8]
    refine wTk 5 (undef) rfl (by kernel_rfl) (fun _ _ _ h => h) (Or.inr ⟨by rfl, rfl⟩) hHeld ?_
    simp only [wA8, wB8, wC8, wD8]
    refine wTk 6 (undef) rfl (by kernel_rfl) (fun _ _ _ h => h) (Or.inr ⟨by rfl, rfl⟩) hHeld ?_
    simp only [wA8, wB8, wC8, wD8]
    refine wTk 7 (undef) rfl (by kernel_rfl) (fun _ _ _ h => h) (Or.inr ⟨by rfl, rfl⟩) hHeld ?_
    simp only [wA8, wB8, wC8, wD8]
    refine wTk 8 (undef) rfl (by kernel_rfl) (fun _ _ _ h => h) (Or.inr ⟨by rfl, rfl⟩) hHeld ?_
    simp only [wA8, wB8, wC8, wD8]
    refine wTk 9 (.bool false) rfl (by kernel_rfl) (fun _ _ _ h => h) (Or.inl ⟨by rfl, fun w _ => by go_simp⟩) hHeld ?_
    simp only [wA8, wB8, wC8, wD8]
    refine wpAnyH_done (by kernel_rfl) ?_ _
    have hbn : Below W.heap.size W w3 := hHeld.2.2.2.2
    go_wp2
    go_roundw
    case rel => exact ⟨i + 1, by omega, by go_num, HF.out, below_step hbW0 hbn, below_step hbW1 hbn⟩
    case measure => simp [intOf]; omega
  ·have HF : Hid (fixOk pl pl' = true) := by
    show fixOk pl pl' = true
    rw [hf]; exact fix_end _ _ _ (by omega)
   clear hf
   go_wp2
   go_ret
   exact ⟨ret_b HF.out.symm, hbw⟩
end Go.Proofs.YtechceagghcipaaGreatDoor
