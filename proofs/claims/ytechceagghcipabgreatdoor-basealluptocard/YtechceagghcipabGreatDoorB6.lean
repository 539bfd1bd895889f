import Derived.Test.YtechceagghcipabGreatDoorB4
import Derived.Test.YtechceagghcipabGreatDoorRA2
import Derived.Deep.RegionHeld3
import Derived.Deep.DrawnRows
import Derived.RangeFuncCalls
import Derived.Shelf.Abstract
import Derived.Shelf.RegionOpen
import Derived.WalkKit
import Derived.OwnWalkIn
import Derived.TacticsInMore
import Derived.LoopNIn
import Derived.LoopIn
import Derived.RangeFuncNested
import Derived.RangeFuncBound
import Derived.RangeFuncLeaves
import Derived.Deep.AppendLies
import Derived.WalkMore
import Derived.Deep.LoopGhost
namespace Go.Proofs.YtechceagghcipabGreatDoor
open Go.RowKit
theorem run_eql_tm (t u : Tm) (w : World) : (binOp .eql 30 t.v u.v).run Tryz.prog w = .ok (.bool (decide (t = u))) w := by
 obtain ⟨k, n, s⟩ := t
 obtain ⟨k', n', s'⟩ := u
 by_cases h1 : k = k'
 ·by_cases h2 : n = n'
  ·by_cases h3 : s = s'
   ·subst h1 h2 h3
    go_simp
   ·have h4 : ¬ s.toList = s'.toList := fun e => h3 (toList_inj e)
    subst h1 h2
    go_simp
  ·subst h1
   go_simp
 ·go_simp
theorem run_neq_tm (t u : Tm) (w : World) : (binOp .neq 30 t.v u.v).run Tryz.prog w = .ok (.bool (!decide (t = u))) w := by
 obtain ⟨k, n, s⟩ := t
 obtain ⟨k', n', s'⟩ := u
 by_cases h1 : k = k'
 ·by_cases h2 : n = n'
  ·by_cases h3 : s = s'
   ·subst h1 h2 h3
    go_simp
   ·have h4 : ¬ s.toList = s'.toList := fun e => h3 (toList_inj e)
    subst h1 h2
    go_simp
  ·subst h1
   go_simp
 ·go_simp
end Go.Proofs.YtechceagghcipabGreatDoor
namespace Go.Proofs.YtechceagghcipabGreatDoor
open Go.RowKit
attribute [local go_sem ↓] Go.wp_at_zero Go.wp_at_succ
def fixOk (p a : List Tm) : Bool := (p.zip a).all fun x => x.1.var || decide (x.1 = x.2)
theorem five {w : World} {g : Nat} {a b c d f : Value} {t : TypeId} (h : w.heap[g]? = some (.cells #[a, b, c, d, f] t (0, 0))) :
  w.cell? ⟨g, 0, none⟩ = some a /\ w.cell? ⟨g, 1, none⟩ = some b /\ w.cell? ⟨g, 2, none⟩ = some c /\ w.cell? ⟨g, 3, none⟩ = some d /\ w.cell? ⟨g, 4, none⟩ = some f :=
 ⟨cell_of_row _ _ _ _ _ _ h, cell_of_row _ _ _ _ _ _ h, cell_of_row _ _ _ _ _ _ h, cell_of_row _ _ _ _ _ _ h, cell_of_row _ _ _ _ _ _ h⟩
theorem fix_step (p a : List Tm) (i : Nat) (x y : Tm) (hx : p[i]? = some x) (hy : a[i]? = some y) : fixOk (p.drop i) (a.drop i) = ((x.var || decide (x = y)) && fixOk (p.drop (i + 1)) (a.drop (i + 1))) := by
 have h1 := List.getElem?_eq_some_iff.1 hx
 have h2 := List.getElem?_eq_some_iff.1 hy
 obtain ⟨h1, rfl⟩ := h1
 obtain ⟨h2, rfl⟩ := h2
 rw [List.drop_eq_getElem_cons h1, List.drop_eq_getElem_cons h2, fixOk, List.zip_cons_cons, List.all_cons, fixOk]
theorem fix_end (p a : List Tm) (i : Nat) (h : p.length <= i) : fixOk (p.drop i) (a.drop i) = true := by
 rw [List.drop_eq_nil_of_le h]; rfl
theorem below_step {W w' w3 : World} (h : Below W.heap.size W w') (h3 : Below w'.heap.size w' w3) : Below W.heap.size W w3 := h.trans (h3.mono h.size)
theorem cell_step {w' w3 : World} {b o : Nat} {v : Value} (h3 : Below w'.heap.size w' w3) (hb : b < w'.heap.size) (hc : w'.cell? ⟨b, o, none⟩ = some v) : w3.cell? ⟨b, o, none⟩ = some v := by
 rw [h3.cell (p := ⟨b, o, none⟩) hb]; exact hc
theorem lt_step {w' w3 : World} {b : Nat} (h3 : Below w'.heap.size w' w3) (hb : b < w'.heap.size) : b < w3.heap.size := Nat.lt_of_lt_of_le hb h3.size
set_option maxHeartbeats 1000000 in
theorem swf_any (a b : At) (x y : Value) (w : World) (h : Ts w x a.args) (h' : Ts w y b.args) (hlen : a.args.length = b.args.length) :
  Calls Tryz.prog 148 #[a.v x, b.v y] w fun e w' => e = .returned (.bool (fixOk a.pl b.pl)) /\ Below w.heap.size w w' := by
 obtain ⟨⟨k, n, s⟩, nm, l⟩ := a
 obtain ⟨⟨k', n', s'⟩, nm', l'⟩ := b
 simp only at h h' hlen
 have HX : Hid (Ts w x l) := h
 have HY : Hid (Ts w y l') := h'
 have hl : l.length < 1000000000000000000 := by obtain ⟨_, _, _, hl, _⟩ := h; exact hl
 have HE : Hid (l.length = l'.length) := hlen
 obtain ⟨pl, hpl⟩ : ∃ pl, pl = (At.mk ⟨k, n, s⟩ nm l).pl := ⟨_, rfl⟩
 obtain ⟨pl', hpl'⟩ : ∃ pl', pl' = (At.mk ⟨k', n', s'⟩ nm' l').pl := ⟨_, rfl⟩
 have HP : Hid (pl = (At.mk ⟨k, n, s⟩ nm l).pl) := hpl
 have HP' : Hid (pl' = (At.mk ⟨k', n', s'⟩ nm' l').pl) := hpl'
 have hn : pl.length = l.length + 1 := by rw [hpl]; simp [At.pl]
 have hn' : pl'.length = l.length + 1 := by rw [hpl', hlen]; simp [At.pl]
 rw [<- hpl, <- hpl']
 have HN : Hid (pl.length = l.length + 1) := hn
 have HN' : Hid (pl'.length = l.length + 1) := hn'
 have hnb : pl.length < 2000000000000000000 := by omega
 clear h h' hlen hpl hpl' hn hn'
 go_enter Tryz.func148, Tryz.ntmps148
 go_wp2_with (go_at_call 60; refine (places_any ⟨⟨k, n, s⟩, nm, l⟩ _ _ (HX.out.later (below2 _ _ _))).mono ?_; rw [<- HP.out]; rintro e w1 ⟨rfl, hb1⟩)
 have hb0 : Below w.heap.size w w1 := (below2 _ _ _).trans (hb1.mono (by simp; omega))
 have g2 : w1.heap[w.heap.size]? = some (.cells #[.int .i64 k, .int .i64 n, .string s, .string nm, x] 33 (0, 0)) := (hb1.block _ (by simp; omega)).trans (heap_alloc2_old _ _ _)
 have g3 : w1.heap[w.heap.size + 1]? = some (.cells #[.int .i64 k', .int .i64 n', .string s', .string nm', y] 33 (0, 0)) := (hb1.block _ (by simp)).trans (heap_alloc2_new _ _ _)
 clear hb1
 go_loopw [9] (fun i wr => ∃ k : Nat, k <= pl.length /\ i = .int .i64 k /\ fixOk pl pl' = fixOk (pl.drop k) (pl'.drop k) /\ Below w.heap.size w wr /\ Below w1.heap.size w1 wr) (fun i _ => pl.length - (intOf i).toNat)
 case atStart => exact ⟨0, by omega, rfl, by simp, hb0, Below.refl _ _⟩
 case round =>
  obtain ⟨i, hi, rfl, hf, hbw, hb1⟩ := hrel
  have z1 : w.heap.size + 1 < w1.heap.size := (Array.getElem?_eq_some_iff.1 g3).1
  obtain ⟨p0, p1, p2, p3, p4⟩ := five ((hb1.block _ (by omega)).trans g2)
  obtain ⟨q0, q1, q2, q3, q4⟩ := five ((hb1.block _ z1).trans g3)
  have z2 : w.heap.size + 1 < wr.heap.size := Nat.lt_of_lt_of_le z1 hb1.size
  by_cases hlt : i < pl.length
  ·obtain ⟨t, ht⟩ : ∃ t, pl[i]? = some t := ⟨_, List.getElem?_eq_getElem hlt⟩
   obtain ⟨u, hu⟩ : ∃ u, pl'[i]? = some u := ⟨_, List.getElem?_eq_getElem (by have := HN.out; have := HN'.out; omega)⟩
   have HS : Hid (fixOk pl pl' = ((t.var || decide (t = u)) && fixOk (pl.drop (i + 1)) (pl'.drop (i + 1)))) := hf.trans (fix_step pl pl' i t u ht hu)
   have HT : Hid (pl[i]? = some t) := ht
   have HU : Hid (pl'[i]? = some u) := hu
   obtain ⟨tk, tn, ts⟩ := t
   obtain ⟨uk, un, us⟩ := u
   clear hf ht hu
   go_wp2_with (go_at_call 62; refine (place_any ⟨⟨k, n, s⟩, nm, l⟩ _ i ⟨tk, tn, ts⟩ (by rw [<- HP.out]; exact HT.out) _ (HX.out.later hbw)).mono ?_; rintro e w2 ⟨rfl, hb2⟩)
   have hbW : Below wr.heap.size wr (w2.alloc (.cells #[.int .i64 tk, .int .i64 tn, .string ts] 30)) := hb2.alloc hb2.size _
   have g6 := three (heap_alloc_new w2 (.cells #[.int .i64 tk, .int .i64 tn, .string ts] 30))
   obtain ⟨G, hG⟩ : ∃ G, G = w2.heap.size := ⟨_, rfl⟩
   have hGz : G < (w2.alloc (.cells #[.int .i64 tk, .int .i64 tn, .string ts] 30)).heap.size := by rw [hG]; simp
   rw [<- hG] at g6 ⊢
   revert g6 hbW hGz
   generalize w2.alloc (.cells #[.int .i64 tk, .int .i64 tn, .string ts] 30) = W
   rintro hbW ⟨r0, r1, r2, -, -, -⟩ hGz
   clear hb2 hG w2
   have hbW0 : Below w.heap.size w W := hbw.trans (hbW.mono hbw.size)
   have hbW1 : Below w1.heap.size w1 W := hb1.trans (hbW.mono hb1.size)
   rw [<- hbW.cell (p := ⟨w.heap.size + 1, _, none⟩) z2] at q0 q1 q2 q3 q4
   have zW : w.heap.size + 1 < W.heap.size := Nat.lt_of_lt_of_le z2 hbW.size
   clear p0 p1 p2 p3 p4
   have he := run_neq_tm ⟨tk, tn, ts⟩ ⟨uk, un, us⟩
   cases hv : Tm.var ⟨tk, tn, ts⟩
   ·have HV : Hid (Tm.var ⟨tk, tn, ts⟩ = false) := hv
    cases hd : decide (Tm.mk tk tn ts = Tm.mk uk un us)
    ·rw [hd] at he
     have HF : Hid (fixOk pl pl' = false) := by show fixOk pl pl' = false; rw [HS.out, hv, hd]; rfl
     clear hv hd
     go_region_held3 (fun w' => w'.cell? ⟨G, 0, none⟩ = some (.int .i64 tk) /\ w'.cell? ⟨G, 1, none⟩ = some (.int .i64 tn) /\ w'.cell? ⟨G, 2, none⟩ = some (.string ts) ∧
      w'.cell? ⟨w.heap.size + 1, 0, none⟩ = some (.int .i64 k') /\ w'.cell? ⟨w.heap.size + 1, 1, none⟩ = some (.int .i64 n') /\ w'.cell? ⟨w.heap.size + 1, 2, none⟩ = some (.string s') ∧
      w'.cell? ⟨w.heap.size + 1, 3, none⟩ = some (.string nm') /\ w'.cell? ⟨w.heap.size + 1, 4, none⟩ = some y /\ G < w'.heap.size /\ w.heap.size + 1 < w'.heap.size /\ Below W.heap.size W w')
     ((go_split_ands; refine ⟨?_, ?_, ?_, ?_, ?_, ?_, ?_, ?_, ?_, ?_, ?_⟩ <;> first | exact cell_step hb3 (by assumption) (by assumption) | exact lt_step hb3 (by assumption) | exact below_step (by assumption) hb3 | go_keep | exact (Below.refl _ _).drew))
     ((first
      | (go_at_call 61; refine (var_any ⟨tk, tn, ts⟩ _).mono ?_; rw [HV.out]; rintro e w3 ⟨rfl, hb3⟩)
      | (go_at_call 62; refine (place_any ⟨⟨k', n', s'⟩, nm', l'⟩ _ i ⟨uk, un, us⟩ (by rw [<- HP'.out]; exact HU.out) _ (by go_split_ands; exact HY.out.later (below_step hbW0 (by assumption)))).mono ?_; rintro e w3 ⟨rfl, hb3⟩)))
     go_wp2
     go_ret
     refine ⟨ret_b HF.out.symm, ?_⟩
     go_split_ands
     exact below_step hbW0 (by assumption)
    ·rw [hd] at he
     have HF : Hid (fixOk pl pl' = fixOk (pl.drop (i + 1)) (pl'.drop (i + 1))) := by show fixOk pl pl' = _; rw [HS.out, hv, hd]; rfl
     clear hv hd
     go_region_held3 (fun w' => w'.cell? ⟨G, 0, none⟩ = some (.int .i64 tk) /\ w'.cell? ⟨G, 1, none⟩ = some (.int .i64 tn) /\ w'.cell? ⟨G, 2, none⟩ = some (.string ts) ∧
      w'.cell? ⟨w.heap.size + 1, 0, none⟩ = some (.int .i64 k') /\ w'.cell? ⟨w.heap.size + 1, 1, none⟩ = some (.int .i64 n') /\ w'.cell? ⟨w.heap.size + 1, 2, none⟩ = some (.string s') ∧
      w'.cell? ⟨w.heap.size + 1, 3, none⟩ = some (.string nm') /\ w'.cell? ⟨w.heap.size + 1, 4, none⟩ = some y /\ G < w'.heap.size /\ w.heap.size + 1 < w'.heap.size /\ Below W.heap.size W w')
     ((go_split_ands; refine ⟨?_, ?_, ?_, ?_, ?_, ?_, ?_, ?_, ?_, ?_, ?_⟩ <;> first | exact cell_step hb3 (by assumption) (by assumption) | exact lt_step hb3 (by assumption) | exact below_step (by assumption) hb3 | go_keep | exact (Below.refl _ _).drew))
     ((first
      | (go_at_call 61; refine (var_any ⟨tk, tn, ts⟩ _).mono ?_; rw [HV.out]; rintro e w3 ⟨rfl, hb3⟩)
      | (go_at_call 62; refine (place_any ⟨⟨k', n', s'⟩, nm', l'⟩ _ i ⟨uk, un, us⟩ (by rw [<- HP'.out]; exact HU.out) _ (by go_split_ands; exact HY.out.later (below_step hbW0 (by assumption)))).mono ?_; rintro e w3 ⟨rfl, hb3⟩)))
     go_split_ands
     have hbn : Below W.heap.size W w3 := by assumption
     go_wp2
     go_roundw
     case rel => exact ⟨i + 1, by omega, by go_num, HF.out, below_step hbW0 hbn, below_step hbW1 hbn⟩
     case measure => simp [intOf]; omega
   ·have HV : Hid (Tm.var ⟨tk, tn, ts⟩ = true) := hv
    have HF : Hid (fixOk pl pl' = fixOk (pl.drop (i + 1)) (pl'.drop (i + 1))) := by show fixOk pl pl' = _; rw [HS.out, hv]; rfl
    clear hv
    refine wp_region_held_drew (S := fun w' => w'.cell? ⟨G, 0, none⟩ = some (.int .i64 tk) /\ w'.cell? ⟨G, 1, none⟩ = some (.int .i64 tn) /\ w'.cell? ⟨G, 2, none⟩ = some (.string ts) /\ G < w'.heap.size /\ Below W.heap.size W w') (by kernel_rfl) ⟨by simpa using r0, by simpa using r1, by simpa using r2, by simpa using hGz, (Below.refl _ _).drew⟩ (fun hHeld => ?_)
    refine wTk 0 (Tm.v ⟨tk, tn, ts⟩) rfl (by kernel_rfl) (fun _ _ _ h => h) (Or.inl ⟨by rfl, fun w h => by obtain ⟨a0, a1, a2, -⟩ := h; go_simp⟩) hHeld ?_
    simp only [wA, wB, wC, wD]
    refine wRd 1 (by kernel_rfl) rfl (fun K hK => ?_)
    go_simp
    refine (var_any ⟨tk, tn, ts⟩ _).mono ?_
    rw [HV.out]
    rintro e w3 ⟨rfl, hb3⟩
    obtain ⟨a0, a1, a2, a3, a4⟩ := hHeld
    refine hK.out _ _ ⟨cell_step hb3 a3 a0, cell_step hb3 a3 a1, cell_step hb3 a3 a2, lt_step hb3 a3, below_step a4 hb3⟩ (fun hHeld => ?_)
    clear hK K a0 a1 a2 a3 a4
    refine wTk 2 (.bool false) rfl (by kernel_rfl) (fun _ _ _ h => h) (Or.inl ⟨by rfl, fun w _ => by go_simp⟩) hHeld ?_
    simp only [wA, wB, wC, wD]
    refine wTk 3 (.bool false) rfl (by kernel_rfl) (fun _ _ _ h => h) (Or.inl ⟨by rfl, fun w _ => by go_simp⟩) hHeld ?_
    simp only [wA, wB, wC, wD]
    refine wTk 4 (undef) rfl (by kernel_rfl) (fun _ _ _ h => h) (Or.inr ⟨by rfl, rfl⟩) hHeld ?_
    simp only [wA, wB, wC, wD]
    refine wTk 5 (undef) rfl (by kernel_rfl) (fun _ _ _ h => h) (Or.inr ⟨by rfl, rfl⟩) hHeld ?_
    simp only [wA, wB, wC, wD]
    refine wTk 6 (undef) rfl (by kernel_rfl) (fun _ _ _ h => h) (Or.inr ⟨by rfl, rfl⟩) hHeld ?_
    simp only [wA, wB, wC, wD]
    refine wTk 7 (undef) rfl (by kernel_rfl) (fun _ _ _ h => h) (Or.inr ⟨by rfl, rfl⟩) hHeld ?_
    simp only [wA, wB, wC, wD]
    refine wTk 8 (undef) rfl (by kernel_rfl) (fun _ _ _ h => h) (Or.inr ⟨by rfl, rfl⟩) hHeld ?_
    simp only [wA, wB, wC, wD]
    refine wTk 9 (.bool false) rfl (by kernel_rfl) (fun _ _ _ h => h) (Or.inl ⟨by rfl, fun w _ => by go_simp⟩) hHeld ?_
    simp only [wA, wB, wC, wD]
    refine wpAnyH_done (by kernel_rfl) ?_ _
    have hbn : Below W.heap.size W w3 := hHeld.2.2.2.2
    go_wp2
    go_roundw
    case rel => exact ⟨i + 1, by omega, by go_num, HF.out, below_step hbW0 hbn, below_step hbW1 hbn⟩
    case measure => simp [intOf]; omega
  ·have HF : Hid (fixOk pl pl' = true) := by
    show fixOk pl pl' = true
    rw [hf]; exact fix_end _ _ _ (by omega)
   clear hf
   go_wp2
   go_ret
   exact ⟨ret_b HF.out.symm, hbw⟩
end Go.Proofs.YtechceagghcipabGreatDoor
namespace Go.Proofs.YtechceagghcipabGreatDoor
open Go.RowKit
attribute [local go_sem ↓] Go.wp_at_zero Go.wp_at_succ
def Tm.cov (t : Tm) : Bool := t.con || t.var
set_option maxHeartbeats 400000 in
theorem cov_any (t : Tm) (w : World) :
  Calls Tryz.prog 96 #[t.v] w fun e w' => e = .returned (.bool t.cov) /\ Below w.heap.size w w' := by
 obtain ⟨k, n, s⟩ := t
 cases h : Tm.con ⟨k, n, s⟩
 ·have HC : Hid (Tm.con ⟨k, n, s⟩ = false) := h
  clear h
  go_enter Tryz.func96, Tryz.ntmps96
  go_wp2_with (first
   | (go_at_call 124; refine (con_any ⟨k, n, s⟩ _).mono ?_; rw [HC.out]; rintro e w1 ⟨rfl, hb1⟩; obtain ⟨hcl, hfr⟩ := bcell hb1)
   | (go_at_call 61; refine (var_any ⟨k, n, s⟩ _).mono ?_; rintro e w2 ⟨rfl, hb2⟩))
  go_ret
  exact ⟨ret_b (by unfold Tm.cov; rw [HC.out]; simp), below_step (below_step (below1 _ _) hb1) hb2⟩
 ·have HC : Hid (Tm.con ⟨k, n, s⟩ = true) := h
  clear h
  go_enter Tryz.func96, Tryz.ntmps96
  go_wp2_with (first
   | (go_at_call 124; refine (con_any ⟨k, n, s⟩ _).mono ?_; rw [HC.out]; rintro e w1 ⟨rfl, hb1⟩; obtain ⟨hcl, hfr⟩ := bcell hb1))
  go_ret
  exact ⟨ret_b (by unfold Tm.cov; rw [HC.out]; simp), below_step (below1 _ _) hb1⟩
structure Te where
 op : Int
 l : Tm
 r : Tm
deriving DecidableEq
end Go.Proofs.YtechceagghcipabGreatDoor
namespace Go.Proofs.YtechceagghcipabGreatDoor
open Go.RowKit
def ARow (w : World) (b o : Nat) (l : List (At × Value)) : Prop :=
 b < w.heap.size /\ ∀ i x, l[i]? = some x -> w.cell? ⟨b, o + i * 5, none⟩ = some (.int .i64 x.1.by_.k) /\ w.cell? ⟨b, o + i * 5 + 1, none⟩ = some (.int .i64 x.1.by_.n) /\ w.cell? ⟨b, o + i * 5 + 2, none⟩ = some (.string x.1.by_.s) ∧
  w.cell? ⟨b, o + i * 5 + 3, none⟩ = some (.string x.1.name) /\ w.cell? ⟨b, o + i * 5 + 4, none⟩ = some x.2
def As (w : World) (v : Value) (l : List (At × Value)) : Prop :=
 ∃ a cap, v = .slice a l.length cap /\ l.length < 1000000000000000000 /\ (l = [] ∨ ∃ b o, a = some ⟨b, o, none⟩ /\ ARow w b o l) /\ ∀ x ∈ l, Ts w x.2 x.1.args
def ERow (w : World) (b o : Nat) (l : List Te) : Prop :=
 b < w.heap.size /\ ∀ i (t : Te), l[i]? = some t -> w.cell? ⟨b, o + i * 7, none⟩ = some (.int .i64 t.op) /\ w.cell? ⟨b, o + i * 7 + 1, none⟩ = some (.int .i64 t.l.k) /\ w.cell? ⟨b, o + i * 7 + 2, none⟩ = some (.int .i64 t.l.n) /\ w.cell? ⟨b, o + i * 7 + 3, none⟩ = some (.string t.l.s) ∧
  w.cell? ⟨b, o + i * 7 + 4, none⟩ = some (.int .i64 t.r.k) /\ w.cell? ⟨b, o + i * 7 + 5, none⟩ = some (.int .i64 t.r.n) /\ w.cell? ⟨b, o + i * 7 + 6, none⟩ = some (.string t.r.s)
def Es (w : World) (v : Value) (l : List Te) : Prop :=
 ∃ a cap, v = .slice a l.length cap /\ l.length < 1000000000000000000 /\ (l = [] ∨ ∃ b o, a = some ⟨b, o, none⟩ /\ ERow w b o l)
theorem ARow.later {w w' : World} {b o l} (h : ARow w b o l) (hb : Below w.heap.size w w') : ARow w' b o l :=
 ⟨Nat.lt_of_lt_of_le h.1 hb.size, fun i x hx => by
  have := h.2 i x hx
  rw [hb.cell (p := ⟨b, _, none⟩) h.1, hb.cell (p := ⟨b, _, none⟩) h.1, hb.cell (p := ⟨b, _, none⟩) h.1, hb.cell (p := ⟨b, _, none⟩) h.1, hb.cell (p := ⟨b, _, none⟩) h.1]; exact this⟩
def CBlk (W : World) (g : Nat) (c : Array Value) (t : TypeId) : Prop := W.heap[g]? = some (.cells c t (0, 0))
theorem CBlk.lt {W : World} {g : Nat} {c : Array Value} {t : TypeId} (h : CBlk W g c t) : g < W.heap.size := (Array.getElem?_eq_some_iff.1 h).1
theorem CBlk.later {W W' : World} {g : Nat} {c : Array Value} {t : TypeId} (h : CBlk W g c t) (hb : Below W.heap.size W W') : CBlk W' g c t := (hb.block _ h.lt).trans h
theorem CBlk.new (W : World) (c : Array Value) (t : TypeId) : CBlk (W.alloc (.cells c t)) W.heap.size c t := heap_alloc_new _ _
end Go.Proofs.YtechceagghcipabGreatDoor
namespace Go.Proofs.YtechceagghcipabGreatDoor
open Go.RowKit Go.Shelf
attribute [local go_sem] Oper.semAt_some
theorem one {w : World} {g : Nat} {a : Value} {t : TypeId} (h : CBlk w g #[a] t) : w.cell? ⟨g, 0, none⟩ = some a /\ w.frozen? ⟨g, 0, none⟩ = false := ⟨cell_of_row _ _ _ _ _ _ h, frozen_of_row _ _ _ _ _ h⟩
theorem cfive {w : World} {g : Nat} {a b c d e : Value} {t : TypeId} (h : CBlk w g #[a, b, c, d, e] t) :
  w.cell? ⟨g, 0, none⟩ = some a /\ w.cell? ⟨g, 1, none⟩ = some b /\ w.cell? ⟨g, 2, none⟩ = some c /\ w.cell? ⟨g, 3, none⟩ = some d /\ w.cell? ⟨g, 4, none⟩ = some e :=
 ⟨cell_of_row _ _ _ _ _ _ h, cell_of_row _ _ _ _ _ _ h, cell_of_row _ _ _ _ _ _ h, cell_of_row _ _ _ _ _ _ h, cell_of_row _ _ _ _ _ _ h⟩
end Go.Proofs.YtechceagghcipabGreatDoor
namespace Go.Proofs.YtechceagghcipabGreatDoor
open Go.RowKit Go.Shelf
attribute [local go_sem] Oper.semAt_some
theorem below_grown {W W' : World} (h : Below W.heap.size W W') : W.grownBy W' none := ⟨h.os, h.tape, h.output, h.size, fun k hk _ => h.block k hk⟩
theorem cthree {w : World} {g : Nat} {a b c : Value} {t : TypeId} (h : CBlk w g #[a, b, c] t) :
  w.cell? ⟨g, 0, none⟩ = some a /\ w.cell? ⟨g, 1, none⟩ = some b /\ w.cell? ⟨g, 2, none⟩ = some c :=
 ⟨cell_of_row _ _ _ _ _ _ h, cell_of_row _ _ _ _ _ _ h, cell_of_row _ _ _ _ _ _ h⟩
end Go.Proofs.YtechceagghcipabGreatDoor
namespace Go.Proofs.YtechceagghcipabGreatDoor
open Go.RowKit
theorem Tryz.infoBind : (Tryz.prog.info? 144).map (fun i => (i.zero, i.size, i.bytes)) = some (some (.agg #[.int .i64 0, .int .i64 0, .int .i64 0, .string ⟨#[]⟩]), 4, 40) := by kernel_rfl
def Bd.cs (d : Bd) : List Value := [.int .i64 d.x, .int .i64 d.to.k, .int .i64 d.to.n, .string d.to.s]
def bcs (l : List Bd) : List Value := l.flatMap Bd.cs
theorem bcs_len (l : List Bd) : (bcs l).length = l.length * 4 := by
 induction l with
 | nil => rfl
 | cons d l ih => simp only [bcs, List.flatMap_cons, List.length_append, List.length_cons] at *; rw [ih]; simp [Bd.cs]; omega
theorem bcs_snoc (l : List Bd) (d : Bd) : bcs (l ++ [d]) = bcs l ++ d.cs := by simp [bcs]
theorem bcs_get (l : List Bd) (j : Nat) (d : Bd) (h : l[j]? = some d) (i : Nat) (hi : i < 4) : (bcs l)[j * 4 + i]? = d.cs[i]? := by
 induction l generalizing j with
 | nil => simp at h
 | cons e l ih =>
  rw [bcs, List.flatMap_cons]
  cases j with
  | zero =>
   simp only [List.getElem?_cons_zero, Option.some.injEq] at h
   subst h
   rw [List.getElem?_append_left (by simp [Bd.cs]; omega)]
   simp
  | succ j =>
   simp only [List.getElem?_cons_succ] at h
   rw [List.getElem?_append_right (by simp [Bd.cs]; omega)]
   have e1 : (j + 1) * 4 + i - (Bd.cs e).length = j * 4 + i := by simp [Bd.cs]; omega
   rw [e1]
   exact ih j h
def Own (w : World) (base : Nat) (v : Value) (l : List Bd) : Prop := w.ownsRow base 144 4 v l.length (bcs l)
theorem own_cells {w : World} {base g cap n : Nat} {l : List Bd} (h : Own w base (.slice (some ⟨g, 0, none⟩) n cap) l) (j : Nat) (d : Bd) (hd : l[j]? = some d) :
  w.cell? ⟨g, j * 4, none⟩ = some (.int .i64 d.x) /\ w.cell? ⟨g, j * 4 + 1, none⟩ = some (.int .i64 d.to.k) /\ w.cell? ⟨g, j * 4 + 2, none⟩ = some (.int .i64 d.to.n) /\ w.cell? ⟨g, j * 4 + 3, none⟩ = some (.string d.to.s) := by
 rcases h.2 with ⟨h, _⟩ | ⟨g', cap', cur, hv, hb, hg, hn, hc, hs, ht⟩
 ·cases h
 ·simp only [Value.slice.injEq, Option.some.injEq, Addr.mk.injEq] at hv
  obtain ⟨⟨rfl, -⟩, -, rfl⟩ := hv
  have hj := (List.getElem?_eq_some_iff.1 hd).1
  have key : ∀ i, i < 4 -> w.cell? ⟨g, j * 4 + i, none⟩ = d.cs[i]? := fun i hi => by
   rw [cell_of_row _ _ _ _ _ _ hg, <- bcs_get l j d hd i hi, <- ht, List.getElem?_take_of_lt (by omega)]
   simp
  exact ⟨key 0 (by omega), key 1 (by omega), key 2 (by omega), key 3 (by omega)⟩
theorem Own.lt {w : World} {base : Nat} {v : Value} {l : List Bd} (h : Own w base v l) : ∀ k, v.ownBlock = some k -> base <= k /\ k < w.heap.size := World.ownsRow.lt h
theorem Own.bs {w : World} {base : Nat} {v : Value} {l : List Bd} (h : Own w base v l) (hl : l.length < 1000000000000000000) : Bs w v l := by
 have hh := h
 rcases h.2 with ⟨rfl, hn⟩ | ⟨g, cap, cur, rfl, hb, hg, -⟩
 ·exact ⟨none, 0, by rw [hn], hl, Or.inl (List.length_eq_zero_iff.1 hn)⟩
 ·refine ⟨_, cap, rfl, hl, Or.inr ⟨g, 0, rfl, (Array.getElem?_eq_some_iff.1 hg).1, fun i t ht => ?_⟩⟩
  simpa using own_cells hh i t ht
theorem Own.later {w w' : World} {base : Nat} {v : Value} {l : List Bd} (h : Own w base v l) (hb : Below w.heap.size w w') : Own w' base v l := by
 refine ⟨h.1, ?_⟩
 rcases h.2 with hn | ⟨g, cap, cur, hv, hbb, hg, rest⟩
 ·exact Or.inl hn
 ·exact Or.inr ⟨g, cap, cur, hv, hbb, (hb.block _ (Array.getElem?_eq_some_iff.1 hg).1).trans hg, rest⟩
theorem own_nil (w : World) (base : Nat) : Own w base (.slice none 0 0) [] := World.ownsRow_nil _ _ _ _
theorem own_form {w : World} {base : Nat} {v : Value} {l : List Bd} (h : Own w base v l) (hn : 0 < l.length) :
  ∃ g cap, v = .slice (some ⟨g, 0, none⟩) l.length cap /\ base <= g /\ g < w.heap.size := World.ownsRow.form h hn
theorem own_len {w : World} {base : Nat} {v : Value} {l : List Bd} (h : Own w base v l) : ∃ a cap, v = .slice a l.length cap := by
 rcases h.2 with ⟨rfl, hn⟩ | ⟨g, cap, cur, hv, -⟩
 ·exact ⟨none, 0, by rw [hn]⟩
 ·exact ⟨_, cap, hv⟩
def hasX (l : List Bd) (x : Int) : Bool := l.any fun d => decide (d.x = x)
def fbS (l : List Bd) (d : Bd) : List Bd := if hasX l d.x then l else l ++ [d]
def fb (s : List Bd) : List Bd := s.foldl fbS []
theorem fb_take (s : List Bd) (k : Nat) (d : Bd) (h : s[k]? = some d) : fb (s.take (k + 1)) = fbS (fb (s.take k)) d := by
 obtain ⟨hk, rfl⟩ := List.getElem?_eq_some_iff.1 h
 rw [List.take_succ_eq_append_getElem hk, fb, List.foldl_append]; rfl
theorem fbS_len (l : List Bd) (d : Bd) : (fbS l d).length <= l.length + 1 := by unfold fbS; split <;> simp
theorem fb_len (s : List Bd) : (fb s).length <= s.length := by
 have : ∀ s l, (List.foldl fbS l s).length <= l.length + s.length := by
  intro s
  induction s with
  | nil => intro l; simp
  | cons d s ih => intro l; have := ih (fbS l d); have := fbS_len l d; simp only [List.foldl_cons, List.length_cons]; omega
 have := this s []
 simpa [fb] using this
theorem hasX_no (l : List Bd) (x : Int) (j : Nat) (d : Bd) (h : l[j]? = some d) (hn : hasX (l.take j) x = false) (hd : ¬ d.x = x) : hasX (l.take (j + 1)) x = false := by
 obtain ⟨hk, rfl⟩ := List.getElem?_eq_some_iff.1 h
 rw [List.take_succ_eq_append_getElem hk, hasX, List.any_append]
 rw [hasX] at hn
 rw [hn]; simpa using hd
theorem hasX_yes (l : List Bd) (x : Int) (j : Nat) (d : Bd) (h : l[j]? = some d) (hd : d.x = x) : hasX l x = true := by
 obtain ⟨hk, rfl⟩ := List.getElem?_eq_some_iff.1 h
 simp only [hasX, List.any_eq_true, decide_eq_true_eq]; exact ⟨_, List.getElem_mem hk, hd⟩
theorem four {w : World} {g : Nat} {a b c d : Value} {t : TypeId} (h : w.heap[g]? = some (.cells #[a, b, c, d] t (0, 0))) :
  w.cell? ⟨g, 0, none⟩ = some a /\ w.cell? ⟨g, 1, none⟩ = some b /\ w.cell? ⟨g, 2, none⟩ = some c /\ w.cell? ⟨g, 3, none⟩ = some d :=
 ⟨cell_of_row _ _ _ _ _ _ h, cell_of_row _ _ _ _ _ _ h, cell_of_row _ _ _ _ _ _ h, cell_of_row _ _ _ _ _ _ h⟩
set_option maxHeartbeats 1000000 in
theorem fb_any (s : List Bd) (v : Value) (w : World) (h : Bs w v s) (hs : s.length <= 1000000000000) :
  Calls Tryz.prog 149 #[v] w fun e w' => ∃ v', e = .returned v' /\ Own w' w.heap.size v' (fb s) /\ Below w.heap.size w w' := by
 obtain ⟨i0, hi0, hz0, hz1, hz2⟩ := info_parts Tryz.infoBind
 obtain ⟨ad, cap, rfl, hl, h⟩ := h
 go_enter Tryz.func149, Tryz.ntmps149
 go_wp2
 go_step3
 go_wp2
 go_step3
 go_wp2
 go_loopg [3, 10] s.length (fun g u i wr => ∃ k : Nat, k + g = s.length /\ i = .int .i64 k /\ Own wr w.heap.size u (fb (s.take k)) /\ Below w.heap.size w wr)
 case atStart => exact ⟨0, by omega, rfl, own_nil _ _, Below.refl _ _⟩
 case round =>
  obtain ⟨k, hk, rfl, hown, hbel⟩ := hrel
  cases gk with
  | succ g =>
   generalize wr = wo at *
   have hlt : k < s.length := by omega
   rcases h with h | ⟨b, o, rfl, hbs, h⟩
   ·subst h; simp at hlt
   ·obtain ⟨d, hd⟩ : ∃ d, s[k]? = some d := ⟨s[k], List.getElem?_eq_getElem hlt⟩
    obtain ⟨c0, c1, c2, c3⟩ := h k d hd
    rw [<- hbel.cell (p := ⟨b, _, none⟩) hbs] at c0 c1 c2 c3
    have hbw : b < wo.heap.size := Nat.lt_of_lt_of_le hbs hbel.size
    have HT := fb_take s k d hd
    have HL := fb_len (s.take k)
    rw [List.length_take] at HL
    obtain ⟨dx, dk, dn, ds⟩ := d
    simp only at c0 c1 c2 c3
    generalize fb (s.take k) = out at hown HT HL
    have HT0 : Hid (fb (s.take (k + 1)) = fbS out ⟨dx, dk, dn, ds⟩) := HT
    clear HT
    have HT := HT0
    clear HT0
    obtain ⟨ad', cap', rfl⟩ := own_len hown
    have HO : Hid (Own wo w.heap.size (.slice ad' out.length cap') out) := hown
    have hol : out.length <= 1000000000000 := by omega
    clear h hd hown HL
    have i1 : (0 : Int) <= (k : Int) := by omega
    have i2 : (k : Int) < (s.length : Int) := by omega
    go_wp2
    have hb0 : Below wo.heap.size wo (wo.alloc (.cells #[.int .i64 dx, .int .i64 dk, .int .i64 dn, .string ds] 144)) := below1 _ _
    have g0 := heap_alloc_new wo (.cells #[.int .i64 dx, .int .i64 dk, .int .i64 dn, .string ds] 144)
    clear c0 c1 c2 c3
    go_loopg [16] out.length (fun g2 i wr => ∃ j : Nat, j + g2 = out.length /\ i = .int .i64 j /\ hasX (out.take j) dx = false /\ Below wo.heap.size wo wr /\ wr.heap[wo.heap.size]? = some (.cells #[.int .i64 dx, .int .i64 dk, .int .i64 dn, .string ds] 144 (0, 0)))
    case atStart => exact ⟨0, by omega, rfl, rfl, hb0, g0⟩
    case round =>
     obtain ⟨j, hj, rfl, hx, hbq, gq⟩ := hrel
     have HX : Hid (hasX (out.take j) dx = false) := hx
     have hbww : Below w.heap.size w wr := hbel.trans (hbq.mono hbel.size)
     have hoq := HO.out.later hbq
     have HQ : Hid (wr.heap[wo.heap.size]? = some (.cells #[.int .i64 dx, .int .i64 dk, .int .i64 dn, .string ds] 144 (0, 0))) := gq
     obtain ⟨q0, q1, q2, q3⟩ := four gq
     have hwr : wo.heap.size < wr.heap.size := (Array.getElem?_eq_some_iff.1 gq).1
     clear hx gq
     cases gk with
     | succ g2 =>
      have hlt2 : j < out.length := by omega
      obtain ⟨e, he⟩ : ∃ e, out[j]? = some e := ⟨out[j], List.getElem?_eq_getElem hlt2⟩
      obtain ⟨gg, cc, hv, hg1, hg2⟩ := own_form hoq (by omega)
      simp only [Value.slice.injEq, true_and] at hv
      obtain ⟨rfl, rfl⟩ := hv
      obtain ⟨e0, e1, e2, e3⟩ := own_cells hoq j e he
      have HE : Hid (out[j]? = some e) := he
      obtain ⟨ex, ek, en, es⟩ := e
      simp only at e0 e1 e2 e3
      have HOQ : Hid _ := hoq
      clear he hoq
      have j1 : (0 : Int) <= (j : Int) := by omega
      have j2 : (j : Int) < (out.length : Int) := by omega
      by_cases hxx : ex = dx
      ·have hq : (ex == dx) = true := by simpa using hxx
       have HH : Hid (fbS out ⟨dx, dk, dn, ds⟩ = out) := by show fbS out _ = out; unfold fbS; rw [if_pos (hasX_yes out dx j _ HE.out hxx)]
       go_wp2
       go_roundg g
       case measure => omega
       case rel => exact ⟨k + 1, by omega, by go_num, by rw [HT.out, HH.out]; exact Own.later HOQ.out (below1 _ _), hbww.alloc hbww.size _⟩
      ·have hq : (ex == dx) = false := by simpa using hxx
       have hxx : Hid (¬ ex = dx) := hxx
       go_wp2
       go_roundg g2
       case measure => omega
       case rel => exact ⟨j + 1, by omega, by go_num, hasX_no out dx j _ HE.out HX.out hxx.out, hbq.alloc hbq.size _, by rw [Below.heap_alloc _ _ _ hwr]; exact HQ.out⟩
     | zero =>
      have hjl : j = out.length := by omega
      subst hjl
      have HH : Hid (fbS out ⟨dx, dk, dn, ds⟩ = out ++ [⟨dx, dk, dn, ds⟩]) := by
       have := HX.out
       rw [List.take_length] at this
       show fbS out _ = _; unfold fbS; rw [if_neg (by simp [this])]
      have HOQ : Hid (Own wr w.heap.size (.slice ad' out.length cap') out) := hoq
      have hsz : w.heap.size <= wr.heap.size := hbww.size
      clear hoq
      go_wp2_with (at_builtin; refine wpList_append_lies _ rfl _ _ _ rfl w.heap.size 144 i0 _ 4 40 Tryz.underlying96 hi0 hz0 hz1 hz2 rfl (by omega) (.slice ad' out.length cap') out.length (bcs out) (by rfl) (HOQ.out.later (below1 _ _)) ⟨wr.heap.size, 0, none⟩ 1 1 (Bd.cs ⟨dx, dk, dn, ds⟩) (by rfl) (by rfl) (World.news_of_block (cs := (Bd.cs ⟨dx, dk, dn, ds⟩).toArray) (t := 144) (fr := (0, 0)) (heap_alloc_new wr _)) (by simp [Value.oneCell', Bd.cs]) (by omega) (by unfold maxLen; omega) (by omega) (by simp; omega) (wr.heap.size + 1) (by simp) ?_; intro gg cap1 w1 hown1 hgrow hat hlt1)
      have R : Own w1 w.heap.size (.slice (some ⟨gg, 0, none⟩) (out.length + 1) cap1) (out ++ [⟨dx, dk, dn, ds⟩]) := by
       unfold Own; rw [bcs_snoc, List.length_append]; exact hown1
      have hlto := (HOQ.out.later (below1 wr (.cells (Bd.cs ⟨dx, dk, dn, ds⟩).toArray 144))).lt
      have RB : Below w.heap.size w w1 := (hbww.alloc hbww.size _).grown hgrow (by simp; omega) (fun q e => by have := hlto _ e; omega)
      have RO : Hid (Own w1 w.heap.size (.slice (some ⟨gg, 0, none⟩) (out.length + 1) cap1) (out ++ [⟨dx, dk, dn, ds⟩])) := R
      clear hown1 hgrow hat hlt1 R hlto
      go_wp2
      go_roundg g
      case measure => omega
      case rel => exact ⟨k + 1, by omega, by go_num, by rw [HT.out, HH.out]; exact RO.out, RB⟩
  | zero =>
   have HT : s.take k = s := List.take_of_length_le (by omega)
   rw [HT] at hown
   have HO : Hid (Own wr w.heap.size u3 (fb s)) := hown
   have hz : ¬ ((k : Int) < (s.length : Int)) := by omega
   clear HT hown h
   go_wp2
   go_ret
   exact ⟨_, rfl, HO.out, hbel⟩
end Go.Proofs.YtechceagghcipabGreatDoor
