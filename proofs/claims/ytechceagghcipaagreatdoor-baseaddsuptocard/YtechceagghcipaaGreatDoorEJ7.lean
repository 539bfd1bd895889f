import Derived.Test.YtechceagghcipaaGreatDoorAA0
import Derived.Test.YtechceagghcipaaGreatDoorEJ6
import Derived.BigQuiet
namespace Go.Proofs.YtechceagghcipaaGreatDoor
open Go.RowKit
attribute [local go_sem ↓] Go.wp_at_zero Go.wp_at_succ

theorem pd_eq8 {s t : ByteArray} {n m : Int} : (Pd.mk s n = Pd.mk t m) ↔ (s = t /\ n = m) := ⟨fun h => by cases h; exact ⟨rfl, rfl⟩, fun h => by obtain ⟨rfl, rfl⟩ := h; rfl⟩
theorem run_neq_pd8 (t u : Pd) (w : World) : (binOp .neq 60 t.v u.v).run Tryz.prog w = .ok (.bool (!decide (t = u))) w := by
 obtain ⟨s, n⟩ := t
 obtain ⟨s', n'⟩ := u
 simp only [pd_eq8]
 by_cases h3 : s = s'
 ·by_cases h2 : n = n'
  ·subst h3 h2
   go_simp
  ·subst h3
   go_simp
 ·have h4 : ¬ s.toList = s'.toList := fun e => h3 (toList_inj e)
  go_simp
theorem cmp_pd {a b : At} (h : a.cmp b <= 0) : cmpP a.pd8 b.pd8 <= 0 := by
 unfold At.cmp at h
 unfold cmpP At.pd8
 simp only
 by_cases hn : a.name.toList = b.name.toList
 ·have e : M.sgL a.name.toList b.name.toList = 0 := (M.sgL_zero _ _).2 hn
  rw [if_neg (by simpa using e)]
  rw [if_neg (by simpa using hn)] at h
  by_cases hl : a.args.length = b.args.length
  ·rw [hl]; unfold M.sgI; simp
  ·rw [if_pos hl] at h; exact h
 ·have e : M.sgL a.name.toList b.name.toList ≠ 0 := fun e => hn ((M.sgL_zero _ _).1 e)
  rw [if_pos e]
  rw [if_pos hn] at h
  exact h
def so9 (R : List It8) : Prop := R.Pairwise fun x y => x.1.1.cmp y.1.1 < 0
structure PI8 (R : List It8) (j : Nat) (P : List Pd) : Prop where
 s : P.Pairwise fun a b => cmpP a b < 0
 m : ∀ p, p ∈ P ↔ ∃ x ∈ R.take j, x.1.1.pd8 = p
 l : ∀ i x, j = i + 1 -> R[i]? = some x -> P.getLast? = some x.1.1.pd8
 n : P.length <= j
theorem PI8.nil (R : List It8) : PI8 R 0 [] := ⟨List.Pairwise.nil, by simp, fun i x h => by omega, by simp⟩
theorem PI8.same {R : List It8} {j : Nat} {P : List Pd} {x : It8} (h : PI8 R j P) (hx : R[j]? = some x) (hl : P.getLast? = some x.1.1.pd8) : PI8 R (j + 1) P := by
 refine ⟨h.s, fun p => ?_, fun i y e hy => ?_, Nat.le_succ_of_le h.n⟩
 ·rw [h.m p, List.take_add_one, hx]
  constructor
  ·rintro ⟨y, hy, e⟩; exact ⟨y, List.mem_append.2 (Or.inl hy), e⟩
  ·rintro ⟨y, hy, e⟩
   rcases List.mem_append.1 hy with hy | hy
   ·exact ⟨y, hy, e⟩
   ·have : y = x := by simpa using hy
    subst this
    exact (h.m p).1 (by rw [<- e]; exact List.mem_of_getLast? hl)
 ·obtain rfl : i = j := by omega
  rw [hx] at hy; cases hy; exact hl
theorem PI8.more {R : List It8} {j : Nat} {P : List Pd} {x : It8} (h : PI8 R j P) (hs : so9 R) (hx : R[j]? = some x) (hl : P.getLast? ≠ some x.1.1.pd8) : PI8 R (j + 1) (P ++ [x.1.1.pd8]) := by
 refine ⟨?_, fun p => ?_, fun i y e hy => ?_, by rw [List.length_append]; have := h.n; simp; omega⟩
 ·refine List.pairwise_append.2 ⟨h.s, by simp, fun a ha b hb => ?_⟩
  rw [List.mem_singleton] at hb
  subst hb
  obtain ⟨z, hz, -⟩ := (h.m a).1 ha
  have hj0 : 0 < j := by
   rcases Nat.eq_zero_or_pos j with h0 | h0
   ·subst h0; simp at hz
   ·exact h0
  obtain ⟨i, rfl⟩ : ∃ i, j = i + 1 := ⟨j - 1, by omega⟩
  have hjl := (List.getElem?_eq_some_iff.1 hx).1
  obtain ⟨y, hy⟩ : ∃ y, R[i]? = some y := ⟨_, List.getElem?_eq_getElem (by omega)⟩
  have hq := h.l i y rfl hy
  have h1 : cmpP y.1.1.pd8 x.1.1.pd8 < 0 := by
   have h2 : y.1.1.cmp x.1.1 < 0 := by
    have := List.pairwise_iff_getElem.1 hs i (i + 1) (by omega) hjl (by omega)
    rw [(List.getElem?_eq_some_iff.1 hy).2, (List.getElem?_eq_some_iff.1 hx).2] at this
    exact this
   have h3 := cmp_pd (a := y.1.1) (b := x.1.1) (by omega)
   have h4 : cmpP y.1.1.pd8 x.1.1.pd8 ≠ 0 := fun e => hl (by rw [hq, ord_pd.zero _ _ e])
   omega
  obtain ⟨P', rfl⟩ : ∃ P', P = P' ++ [y.1.1.pd8] := by
   obtain ⟨ys, e⟩ := List.getLast?_eq_some_iff.1 hq
   exact ⟨ys, e⟩
  rcases List.mem_append.1 ha with ha | ha
  ·have h5 := (List.pairwise_append.1 h.s).2.2 a ha _ (List.mem_singleton.2 rfl)
   exact (ord_pd.tr _ _ _ (by omega) (by omega)).2 (Or.inl h5)
  ·rw [List.mem_singleton.1 ha]; exact h1
 ·rw [List.mem_append, h.m p, List.take_add_one, hx]
  constructor
  ·rintro (⟨y, hy, e⟩ | e)
   ·exact ⟨y, List.mem_append.2 (Or.inl hy), e⟩
   ·exact ⟨x, List.mem_append.2 (Or.inr (by simp)), (List.mem_singleton.1 e).symm⟩
  ·rintro ⟨y, hy, e⟩
   rcases List.mem_append.1 hy with hy | hy
   ·exact Or.inl ⟨y, hy, e⟩
   ·have : y = x := by simpa using hy
    subst this
    exact Or.inr (List.mem_singleton.2 e.symm)
 ·obtain rfl : i = j := by omega
  rw [hx] at hy; cases hy; simp
theorem PI8.done {R : List It8} {P : List Pd} (h : PI8 R R.length P) : P.Nodup /\ srt8P P /\ ∀ p, p ∈ P ↔ ∃ x ∈ Ei R, x.1.pd8 = p := by
 refine ⟨?_, h.s.imp fun h => by omega, fun p => ?_⟩
 ·refine List.nodup_iff_pairwise_ne.2 (h.s.imp fun {a b} hab e => ?_)
  rw [e, ord_pd.refl] at hab
  omega
 ·rw [h.m p, List.take_length]
  constructor
  ·rintro ⟨x, hx, e⟩; exact ⟨_, List.mem_map.2 ⟨x, hx, rfl⟩, e⟩
  ·rintro ⟨y, hy, e⟩; obtain ⟨x, hx, rfl⟩ := List.mem_map.1 hy; exact ⟨x, hx, e⟩
set_option maxRecDepth 20000 in
set_option maxHeartbeats 2000000 in
theorem rbpreds8_any (w0 : World) (A : Nat -> Prop) (r : Nat) (lv : Value) (R : List It8) (Y : World) (h : RB8 w0 A r lv R Y) (hso : so9 R) (hl : R.length <= 1000000000) :
  Calls Tryz.prog 78 #[.pointer (some ⟨r, 0, none⟩)] Y (PW8 (Ei R) Y) := by
 have H := hm7 h
 have HA := hm7 h.l.is
 have HSO := hm7 hso
 obtain ⟨la, cap, rfl⟩ := h.l.o.form
 clear h hso
 go_enter Tryz.func78, Tryz.ntmps78
 go_wp2
 go_loopg [4, 3, 5] R.length (fun g i v _ wr => ∃ (j : Nat) (P : List Pd), j + g = R.length /\ i = .int .i64 j /\ OwnP wr Y.heap.size v P /\ PI8 R j P /\ Below Y.heap.size Y wr)
 case atStart => exact ⟨0, [], by omega, rfl, ownP_nil _ _, PI8.nil R, Below.refl _ _⟩
 case round =>
  obtain ⟨j, P, hj, rfl, ho, hpi, hw⟩ := hrel
  have HB := hm7 hw
  have HO := hm7 ho
  have HPI := hm7 hpi
  have HCR : Hid (∀ (X : World), Below wr.heap.size wr X -> X.cell? ⟨r, 0, none⟩ = some (.slice la R.length cap)) := fun X hX => ((H.out.below HB.out).below hX).cell
  have q0 := HCR.out wr (Below.refl _ _)
  cases gk with
  | succ g =>
   have hlt : (j : Int) < (R.length : Int) := by omega
   have j0 : (0 : Int) <= (j : Int) := by omega
   obtain ⟨x, hx⟩ : ∃ x, R[j]? = some x := ⟨_, List.getElem?_eq_getElem (by omega)⟩
   have hb := HB.out
   obtain ⟨lb, lo, ax, cx, rfl, hax, c1⟩ := HA.out.get hx
   have HNX := hm7 hx
   have hpl := hpi.n
   obtain ⟨⟨⟨⟨kx, mx, sx⟩, nx, lx⟩, vx⟩, px⟩ := x
   simp only at hax c1
   subst hax
   have HX1 := hm7 (fun (X : World) (hX : Below wr.heap.size wr X) => (c1 X (hb.trans (hX.mono hb.size))).1)
   have hz := hb.size
   obtain ⟨va, vc, rfl⟩ := ho.tsP.form
   clear hx c1 hb hw ho hpi
   go_upto_region 5 with fail
   clear q0
   refine wp_region_held_drew (S := fun w' => Below wr.heap.size wr w') (by kernel_rfl) (by exact (Below.refl _ _).drew) (fun hH => ?_)
   revert hH
   generalize wr.drew = V
   intro hH
   refine wTk 0 (.pointer (some ⟨r, 0, none⟩)) rfl (by kernel_rfl) (fun _ _ _ h => h) (Or.inl ⟨by rfl, fun w' h => by clear h; go_simp⟩) hH ?_
   simp only [wA8, wB8, wC8, wD8]
   refine wTk 1 (.pointer (some ⟨r, 0, none⟩)) rfl (by kernel_rfl) (fun _ _ _ h => h) (Or.inl ⟨by rfl, fun w' h => by clear h; go_simp⟩) hH ?_
   simp only [wA8, wB8, wC8, wD8]
   refine wTk 2 (.pointer (some ⟨r, 0, none⟩)) rfl (by kernel_rfl) (fun _ _ _ h => h) (Or.inl ⟨by rfl, fun w' h => by clear h; go_simp⟩) hH ?_
   simp only [wA8, wB8, wC8, wD8]
   refine wTk 3 (.slice (some ⟨lb, lo, none⟩) R.length cap) rfl (by kernel_rfl) (fun _ _ _ h => h) (Or.inl ⟨by rfl, fun w' h => by have q0 := HCR.out w' h; clear h; go_simp⟩) hH ?_
   simp only [wA8, wB8, wC8, wD8]
   refine wTk 4 (.int .i64 (j : Int)) rfl (by kernel_rfl) (fun _ _ _ h => h) (Or.inl ⟨by rfl, fun w' h => by clear h; go_simp⟩) hH ?_
   simp only [wA8, wB8, wC8, wD8]
   refine wTk 5 (.pointer (some ⟨lb, lo + j * 6, none⟩)) rfl (by kernel_rfl) (fun _ _ _ h => h) (Or.inl ⟨by rfl, fun w' h => by clear h; go_simp⟩) hH ?_
   simp only [wA8, wB8, wC8, wD8]
   refine wTk 6 (.pointer (some ⟨lb, lo + j * 6, none⟩)) rfl (by kernel_rfl) (fun _ _ _ h => h) (Or.inl ⟨by rfl, fun w' h => by clear h; go_simp⟩) hH ?_
   simp only [wA8, wB8, wC8, wD8]
   refine wTk 7 (.pointer (some ⟨lb, lo + j * 6 + 3, none⟩)) rfl (by kernel_rfl) (fun _ _ _ h => h) (Or.inl ⟨by rfl, fun w' h => by clear h; go_simp⟩) hH ?_
   simp only [wA8, wB8, wC8, wD8]
   refine wTk 8 (.string nx) rfl (by kernel_rfl) (fun _ _ _ h => h) (Or.inl ⟨by rfl, fun w' h => by obtain ⟨p0, p1, p2, p3, p4⟩ := HX1.out w' h; clear h; go_simp⟩) hH ?_
   simp only [wA8, wB8, wC8, wD8]
   refine wTk 9 (.pointer (some ⟨r, 0, none⟩)) rfl (by kernel_rfl) (fun _ _ _ h => h) (Or.inl ⟨by rfl, fun w' h => by clear h; go_simp⟩) hH ?_
   simp only [wA8, wB8, wC8, wD8]
   refine wTk 10 (.pointer (some ⟨r, 0, none⟩)) rfl (by kernel_rfl) (fun _ _ _ h => h) (Or.inl ⟨by rfl, fun w' h => by clear h; go_simp⟩) hH ?_
   simp only [wA8, wB8, wC8, wD8]
   refine wTk 11 (.pointer (some ⟨r, 0, none⟩)) rfl (by kernel_rfl) (fun _ _ _ h => h) (Or.inl ⟨by rfl, fun w' h => by clear h; go_simp⟩) hH ?_
   simp only [wA8, wB8, wC8, wD8]
   refine wTk 12 (.slice (some ⟨lb, lo, none⟩) R.length cap) rfl (by kernel_rfl) (fun _ _ _ h => h) (Or.inl ⟨by rfl, fun w' h => by have q0 := HCR.out w' h; clear h; go_simp⟩) hH ?_
   simp only [wA8, wB8, wC8, wD8]
   refine wTk 13 (.int .i64 (j : Int)) rfl (by kernel_rfl) (fun _ _ _ h => h) (Or.inl ⟨by rfl, fun w' h => by clear h; go_simp⟩) hH ?_
   simp only [wA8, wB8, wC8, wD8]
   refine wTk 14 (.pointer (some ⟨lb, lo + j * 6, none⟩)) rfl (by kernel_rfl) (fun _ _ _ h => h) (Or.inl ⟨by rfl, fun w' h => by clear h; go_simp⟩) hH ?_
   simp only [wA8, wB8, wC8, wD8]
   refine wTk 15 (.pointer (some ⟨lb, lo + j * 6, none⟩)) rfl (by kernel_rfl) (fun _ _ _ h => h) (Or.inl ⟨by rfl, fun w' h => by clear h; go_simp⟩) hH ?_
   simp only [wA8, wB8, wC8, wD8]
   refine wTk 16 (.pointer (some ⟨lb, lo + j * 6 + 4, none⟩)) rfl (by kernel_rfl) (fun _ _ _ h => h) (Or.inl ⟨by rfl, fun w' h => by clear h; go_simp⟩) hH ?_
   simp only [wA8, wB8, wC8, wD8]
   refine wTk 17 (.slice ax lx.length cx) rfl (by kernel_rfl) (fun _ _ _ h => h) (Or.inl ⟨by rfl, fun w' h => by obtain ⟨p0, p1, p2, p3, p4⟩ := HX1.out w' h; clear h; go_simp⟩) hH ?_
   simp only [wA8, wB8, wC8, wD8]
   refine wTk 18 (.int .i64 (lx.length : Int)) rfl (by kernel_rfl) (fun _ _ _ h => h) (Or.inl ⟨by rfl, fun w' h => by clear h; go_simp⟩) hH ?_
   simp only [wA8, wB8, wC8, wD8]
   refine wTk 19 (.agg #[.string nx, .int .i64 (lx.length : Int)]) rfl (by kernel_rfl) (fun _ _ _ h => h) (Or.inl ⟨by rfl, fun w' h => by clear h; go_simp⟩) hH ?_
   simp only [wA8, wB8, wC8, wD8]
   refine wRd 20 (by kernel_rfl) rfl (fun K hK => ?_)
   go_simp
   have gG := hH.size
   refine hK.out _ _ (balloc hH) (fun hH => ?_)
   clear hK K
   have fG := Bk.new V #[.string ⟨#[]⟩, .int .i64 0] 60
   revert hH fG
   generalize V.alloc (.cells #[.string ⟨#[]⟩, .int .i64 0] 60) = Vg
   intro hH fG
   refine wRd 21 (by kernel_rfl) rfl (fun K hK => ?_)
   have c0 := fG.cell (i := 0) rfl
   have c1 := fG.cell (i := 1) rfl
   have z0 := fG.froz 0
   have z1 := fG.froz 1
   go_simp
   clear c0 c1 z0 z1
   refine hK.out _ _ (bset (bset hH gG) gG) (fun hH => ?_)
   clear hK K
   have fG := (fG.set 0 (.string nx)).set 1 (.int .i64 (lx.length : Int))
   simp only [List.setIfInBounds_toArray, List.set_cons_zero, List.set_cons_succ] at fG
   revert hH fG
   generalize (Vg.setCell ⟨V.heap.size, 0, none⟩ (.string nx)).setCell ⟨V.heap.size, 1, none⟩ (.int .i64 (lx.length : Int)) = V2
   intro hH fG
   refine wpAnyH_done (by kernel_rfl) ?_ _
   have HV := hm7 hH
   have HG := hm7 fG
   obtain ⟨G, hG⟩ : ∃ G, G = V.heap.size := ⟨_, rfl⟩
   rw [<- hG] at HG gG ⊢
   clear hH fG hG
   have HO2 := hm7 (HO.out.later HV.out)
   have HB2 := hm7 (HB.out.trans (HV.out.mono HB.out.size))
   have hz2 := HV.out.size
   have g0 := HG.out.cell (i := 0) rfl
   have g1 := HG.out.cell (i := 1) rfl
   by_cases hP : P = []
   ·subst hP
    have HN := hm7 (HPI.out.more HSO.out HNX.out (by simp))
    have e0 : (([] : List Pd).length : Int) = 0 := rfl
    simp only [List.length_nil] at *
    go_upto_region 6 with fail
    go_quiet (fail)
    go_wp2_with (at_builtin; refine app_preds rfl _ _ rfl Y.heap.size (.slice va 0 vc) [] rfl (OwnP.later (OwnP.later HO2.out (below_drewN (Below.refl _ _) _)) (below1 _ _)) _ [⟨nx, (lx.length : Int)⟩] rfl (PsP.one (CBlk.new _ _ _)) (by simp) (by simp; omega) ?_; intro v2 w2 ho2 hb2 hg2; have HO3 := hm7 ho2; have HB3 := hm7 ((below_drewN HB2.out _).trans (((below1 _ _).mono (by simp; omega)).trans hb2)); clear ho2 hb2 hg2)
    go_roundg g
    case measure => omega
    case rel => exact ⟨j + 1, _, by omega, by go_num, HO3.out, HN.out, HB3.out⟩
   ·have hpos : 0 < P.length := List.length_pos_iff.2 hP
    obtain ⟨p, hp⟩ : ∃ p, P[P.length - 1]? = some p := ⟨_, List.getElem?_eq_getElem (by omega)⟩
    have hgl : P.getLast? = some p := by rw [List.getLast?_eq_getElem?]; exact hp
    have HGL := hm7 hgl
    obtain ⟨pb, po, hpa, hrow⟩ := HO2.out.tsP.get hp
    subst hpa
    obtain ⟨b0, b1⟩ := hrow.2 (P.length - 1) p hp
    have j1 : (0 : Int) <= (P.length : Int) - 1 := by omega
    have j2 : (P.length : Int) - 1 < (P.length : Int) := by omega
    have j3 : ((P.length : Int) - 1).toNat = P.length - 1 := by omega
    have j5 : IntKind.i64.wrap ((P.length : Int) - 1) = (P.length : Int) - 1 := by rw [IntKind.wrap_i64]; omega
    have j6 : ¬ (P.length : Int) < 1 := by omega
    have j7 : ((P.length : Int) == 0) = false := by simp; omega
    have j8 : decide ((P.length : Int) = 0) = false := decide_eq_false (by omega)
    have j9 : ¬ P.length = 0 := by omega
    obtain ⟨pn, pr⟩ := p
    simp only at b0 b1
    have hrn := run_neq_pd8 ⟨pn, pr⟩ ⟨nx, (lx.length : Int)⟩
    simp only [Pd.v] at hrn
    clear hp hgl hrow hpos
    by_cases he : Pd.mk pn pr = ⟨nx, (lx.length : Int)⟩
    ·have HN := hm7 (HPI.out.same HNX.out (by rw [HGL.out, he]; rfl))
     rw [decide_eq_true he] at hrn
     clear he
     go_upto_region 6 with fail
     go_quiet (fail)
     go_wp2
     go_roundg g
     case measure => omega
     case rel => exact ⟨j + 1, _, by omega, by go_num, OwnP.later HO2.out (below_drewN (Below.refl _ _) _), HN.out, below_drewN HB2.out _⟩
    ·have HN := hm7 (HPI.out.more HSO.out HNX.out (by rw [HGL.out]; intro e; exact he (Option.some.inj e)))
     rw [decide_eq_false he] at hrn
     clear he
     go_upto_region 6 with fail
     go_quiet (fail)
     go_wp2_with (at_builtin; refine app_preds rfl _ _ rfl Y.heap.size (.slice (some ⟨pb, po, none⟩) P.length vc) P rfl (OwnP.later (OwnP.later HO2.out (below_drewN (Below.refl _ _) _)) (below1 _ _)) _ [⟨nx, (lx.length : Int)⟩] rfl (PsP.one (CBlk.new _ _ _)) (by simp; omega) (by simp; omega) ?_; intro v2 w2 ho2 hb2 hg2; have HO3 := hm7 ho2; have HB3 := hm7 ((below_drewN HB2.out _).trans (((below1 _ _).mono (by simp; omega)).trans hb2)); clear ho2 hb2 hg2)
     go_roundg g
     case measure => omega
     case rel => exact ⟨j + 1, _, by omega, by go_num, HO3.out, HN.out, HB3.out⟩
  | zero =>
   have hlt : ¬ (j : Int) < (R.length : Int) := by omega
   obtain rfl : j = R.length := by omega
   have HD := hm7 hpi.done
   clear hw ho hpi
   go_wp2
   go_ret
   exact ⟨_, P, rfl, HO.out, HD.out.1, HD.out.2.1, HD.out.2.2, HB.out⟩
end Go.Proofs.YtechceagghcipaaGreatDoor
