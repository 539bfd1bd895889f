import Derived.Test.YtechceagghcipaaGreatDoorEC7
namespace Go.Proofs.YtechceagghcipaaGreatDoor
open Go.RowKit Go.Maps
attribute [local go_sem ↓] Go.wp_at_zero Go.wp_at_succ

open Classical in
noncomputable def tn8 (ss : List Pd) (s : Pd -> St7) : Pd -> St7 := fun q => if q ∈ ss then Turn7 (s q) else s q
theorem tn8_nil (s : Pd -> St7) : tn8 [] s = s := funext fun q => if_neg (by simp)
theorem tn8_snoc {ss : List Pd} {x : Pd} (s : Pd -> St7) : up8 (tn8 ss s) x (Turn7 (s x)) = tn8 (ss ++ [x]) s := by
 funext q
 by_cases e : q = x
 ·subst e
  rw [up8_same]
  exact (if_pos (by simp)).symm
 ·rw [up8_other _ _ e]
  unfold tn8
  by_cases h : q ∈ ss
  ·rw [if_pos h, if_pos (by simp [h])]
  ·rw [if_neg h, if_neg (by simp [h, e])]
theorem tn8_perm {ss K : List Pd} (s : Pd -> St7) (h : ss.Perm K) : tn8 ss s = tn8 K s := by
 funext q
 unfold tn8
 by_cases hq : q ∈ ss
 ·rw [if_pos hq, if_pos (h.mem_iff.1 hq)]
 ·rw [if_neg hq, if_neg (fun hk => hq (h.mem_iff.2 hk))]
theorem ranges_same8 {w w' : World} {P : Program} {k : TypeId} {R : Value -> Option (DataW Value × List MemPlace)} {b r n : Nat} {D : DataW Value} {left : Lit -> Bool} {cnt : Nat} (h : w.ranges P k R b r n D left cnt) (hb : w'.heap[b]? = w.heap[b]?) (hr : w'.heap[r]? = w.heap[r]?) : w'.ranges P k R b r n D left cnt := by
 obtain ⟨es, clock, since, seen, c0, h1, h2, h3, h4, h5, h6⟩ := h
 exact ⟨es, clock, since, seen, c0, hb.trans h1, h2, h3, h4, hr.trans h5, h6⟩
structure TU8 (w : World) (g : Nat) (tv : Value) (mn mr : Nat) (ga : Pd -> Nat) (B : Pd -> Nat -> Prop) (m : Nat) (T : List Tm) (K : List Pd) (s : Pd -> St7) (Y : World) (ss : List Pd) (wr : World) : Prop where
 ex : ∃ B', BS w g tv mn mr ga B' m T K (tn8 ss s) wr /\ ∀ b, PA8 g tv mn mr B' K b -> PA8 g tv mn mr B K b ∨ Y.heap.size < b
 fr : Fr (fun b => PA8 g tv mn mr B K b) Y wr
 sz : Y.heap.size < wr.heap.size
section
variable {w : World} {g : Nat} {tv : Value} {mn mr : Nat} {ga : Pd -> Nat} {B : Pd -> Nat -> Prop} {m : Nat} {T : List Tm} {K : List Pd} {s : Pd -> St7} {Y : World} {ss : List Pd} {wr w1 : World}
theorem TU8.it (h : TU8 w g tv mn mr ga B m T K s Y ss wr) (hY : BS w g tv mn mr ga B m T K s Y) (hg : wr.grownBy w1 (some Y.heap.size)) : TU8 w g tv mn mr ga B m T K s Y ss w1 := by
 obtain ⟨B', h1, h2⟩ := h.ex
 have hf : Fr (fun b => b = Y.heap.size) wr w1 := Fr.grown hg fun b e => by cases e; rfl
 refine ⟨⟨B', h1.fr hf (fun b e _ hq => ?_) (fun b e _ => by subst e; exact hY.bl.size), h2⟩, h.fr.trans hf fun b hl e => by omega, Nat.lt_of_lt_of_le h.sz hf.size⟩
 subst e
 rcases h2 _ hq with q | q
 ·have := (hY.lt q).2; omega
 ·omega
theorem TU8.turn (h : TU8 w g tv mn mr ga B m T K s Y ss wr) (hY : BS w g tv mn mr ga B m T K s Y) {x : Pd} (hx : x ∈ K) (hn : x ∉ ss) :
  Calls Tryz.prog 35 #[.pointer (some ⟨ga x, 0, none⟩)] wr fun e w2 => e = .returned (.int .i64 (((s x).rows.length : Int) - ((s x).xf : Int))) /\ TU8 w g tv mn mr ga B m T K s Y (ss ++ [x]) w2 /\ w2.heap[mr]? = wr.heap[mr]? /\ w2.heap[Y.heap.size]? = wr.heap[Y.heap.size]? := by
 obtain ⟨B', h1, h2⟩ := h.ex
 have hs := h.sz
 have e : tn8 ss s x = s x := if_neg hn
 have hp := h1.pt x hx
 rw [e] at hp
 refine hp.turn.mono ?_
 rintro e' w2 ⟨rfl, hpx⟩
 obtain ⟨N, hbs, hf, hN⟩ := h1.one hx hpx
 rw [tn8_snoc] at hbs
 have hz := hf.size
 refine ⟨rfl, ⟨⟨_, hbs, fun b hb => ?_⟩, h.fr.trans hf fun b hl hq => ?_, by omega⟩, hf.block mr h1.r.lt fun hq => (h1.ap x hx _ hq).2 rfl, hf.block _ hs fun hq => ?_⟩
 ·rcases PA8.up8 hb with q | q
  ·exact h2 b q
  ·rcases hN b q with q | q
   ·exact h2 b (Or.inr (Or.inr ⟨x, hx, q⟩))
   ·exact Or.inr (by omega)
 ·rcases h2 b (Or.inr (Or.inr ⟨x, hx, hq⟩)) with q | q
  ·exact q
  ·omega
 ·rcases h2 _ (Or.inr (Or.inr ⟨x, hx, hq⟩)) with q | q
  ·have := (hY.lt q).2; omega
  ·omega
end
set_option maxRecDepth 20000 in
set_option maxHeartbeats 2000000 in
theorem bturn8_any (w : World) (g : Nat) (tv : Value) (mn mr : Nat) (ga : Pd -> Nat) (B : Pd -> Nat -> Prop) (m : Nat) (T : List Tm) (K : List Pd) (s : Pd -> St7) (Y : World) (h : BS w g tv mn mr ga B m T K s Y) (hkl : K.length <= 100000000) :
  Calls Tryz.prog 11 #[.pointer (some ⟨g, 0, none⟩)] Y fun e Y' => e = .returned (.int .i64 (sm8 (fun p => ((s p).rows.length : Int) - ((s p).xf : Int)) K)) /\ BX8 w g mn mr m T K (tn8 K s) (PA8 g tv mn mr B K) Y Y' := by
 obtain ⟨D, hD, hsz, hc0, hin⟩ := h.rng
 have HS := hm7 h
 have HM := hm7 hD
 have HC0 := hm7 hc0
 have HIN := hm7 hin
 have c2 := h.t.b.cell (i := 2) rfl
 have gl := h.t.b.lt
 have hml := h.r.lt
 have HBD : Hid (∀ p ∈ K, 0 <= ((s p).rows.length : Int) - ((s p).xf : Int) /\ ((s p).rows.length : Int) - ((s p).xf : Int) <= 10000000000) := fun p hp => by
  have ho := (h.pt p hp).ok
  have := ho.b
  have := ho.c
  omega
 have HTN : Hid (∀ (ss : List Pd) (x : Pd) (wr : World), TU8 w g tv mn mr ga B m T K s Y ss wr -> x ∈ K -> x ∉ ss -> Calls Tryz.prog 35 #[.pointer (some ⟨ga x, 0, none⟩)] wr fun e w2 => e = .returned (.int .i64 (((s x).rows.length : Int) - ((s x).xf : Int))) /\ TU8 w g tv mn mr ga B m T K s Y (ss ++ [x]) w2 /\ w2.heap[mr]? = wr.heap[mr]? /\ w2.heap[Y.heap.size]? = wr.heap[Y.heap.size]?) := fun ss x wr ht hx hn => ht.turn h hx hn
 have HT0 : Hid (∀ w0 : World, Y.grownBy w0 none -> w0.heap.size = Y.heap.size + 1 -> TU8 w g tv mn mr ga B m T K s Y [] w0) := fun w0 hg hz => by
  have hf : Fr (fun b => PA8 g tv mn mr B K b) Y w0 := Fr.grown hg fun b e => by cases e
  have hf0 : Fr (fun _ => False) Y w0 := Fr.grown hg fun b e => by cases e
  exact ⟨⟨B, by rw [tn8_nil]; exact h.fr hf0 (fun _ h => h.elim) fun _ h => h.elim, fun b hb => Or.inl hb⟩, hf, by omega⟩
 obtain ⟨f, hf⟩ : ∃ f : Pd -> Int, (fun p => ((s p).rows.length : Int) - ((s p).xf : Int)) = f := ⟨_, rfl⟩
 have hf' : ∀ p, ((s p).rows.length : Int) - ((s p).xf : Int) = f p := fun p => by rw [<- hf]
 simp only [hf'] at HTN HBD
 rw [hf]
 clear h hD hc0 hin hf hf'
 go_enter Tryz.func11, Tryz.ntmps11
 go_wp2_with (at_range; refine wpList_range_own _ rfl _ 80 rfl 60 73 Tryz.lawPred Tryz.underlying80 _ mr K.length _ rfl HM.out ?_; intro w0 hrg0 hg0 hs0)
 go_frame
 go_loopw [3] (fun v wr => ∃ (left : Lit -> Bool) (cnt : Nat) (ss : List Pd), wr.ranges Tryz.prog 60 rawE mr Y.heap.size K.length D left cnt /\ ss.length + cnt <= Maps.size D /\ v = .int .i64 (sm8 f ss) /\ CollQ K left ss /\ TU8 w g tv mn mr ga B m T K s Y ss wr)
  (fun _ wr => wr.rangeLeft mr Y.heap.size)
 case atStart => exact ⟨_, _, [], hrg0, by simp, rfl, HC0.out, HT0.out _ hg0 hs0⟩
 case round =>
  obtain ⟨left, cnt, ss, hrg, hcs, rfl, hC, hb⟩ := hrel
  have HRG := hm7 hrg
  have HC := hm7 hC
  have HB := hm7 hb
  have hbd := sm8_bd f ss fun p hp => HBD.out p (hC.sub p hp)
  clear hrg hC hb
  go_wp2_with (at_next; refine wpList_next_ranges _ rfl _ rfl 60 Tryz.lawPred rawE (fun t : Pd => t.v) (fun c : Value => c) (fun key kl hk => by obtain ⟨x, hx, _⟩ := keyOf_pd_inv hk; exact ⟨x, hx⟩) (fun v y hv => ⟨v, rfl⟩) mr Y.heap.size K.length _ _ _ rfl HRG.out ?_ ?_)
  ·intro hc0 hl0
   have HL0 := hm7 hl0
   clear hc0 hl0
   go_wp2
   go_ret
   have hpm := HC.out.done HS.out.nd HL0.out
   obtain ⟨B', h1, h2⟩ := HB.out.ex
   rw [tn8_perm s hpm] at h1
   exact ⟨by rw [<- sm8_perm f hpm]; rfl, tv, ga, B', h1, HB.out.fr, fun b hb => (h2 b hb).imp id Nat.le_of_lt⟩
  ·intro x c kl y ps w1 cnt1 hkey hlk hv hat hrg1 hlt hg1 hs1 hen
   obtain ⟨hx, rfl, rfl⟩ := HIN.out x c kl (y, ps) hkey hv hat
   have hnx : x ∉ ss := fun hq => by have := (HC.out.mem x hx).1 hq; rw [hlk] at this; cases this
   have HC1 := hm7 (HC.out.step HS.out.kp hx hlk)
   have HR1 := hm7 hrg1
   have HB1 := hm7 (HB.out.it HS.out hg1)
   have HLT := hm7 hlt
   have hfx := HBD.out x hx
   have hb1 : (ss.length : Int) <= 100000000 := by omega
   have s0 : 0 <= sm8 f ss := hbd.1
   have s1 : sm8 f ss <= 1000000000000000000 := by omega
   have t0 := hfx.1
   have t1 := hfx.2
   obtain ⟨S, hS⟩ : ∃ S, sm8 f ss = S := ⟨_, rfl⟩
   obtain ⟨F, hF⟩ : ∃ F, f x = F := ⟨_, rfl⟩
   have HCA := hm7 (HTN.out ss x w1 HB1.out hx hnx)
   rw [hS] at s0 s1 ⊢
   rw [hF] at t0 t1 HCA
   have HSS := hm7 (show sm8 f (ss ++ [x]) = S + F by rw [sm8_snoc, hS, hF])
   obtain ⟨gx, hgx⟩ : ∃ gx, ga x = gx := ⟨_, rfl⟩
   rw [hgx] at HCA hen ⊢
   clear hx hat hlk hkey hrg1 hg1 hs1 hv HC hlt hfx hS hF hbd hb1 HTN hgx hnx
   obtain ⟨xn, xa⟩ := x
   try simp only at hen
   go_wp2_with (go_at_call 35; refine HCA.out.mono ?_; clear HCA; rintro e w2 ⟨rfl, ht, e1, e2⟩; have HB2 := hm7 ht; have HR2 := hm7 (ranges_same8 HR1.out e1 e2); clear ht e1 e2)
   go_roundw
   case rel => exact ⟨_, cnt1, _, HR2.out, by have := HLT.out; simp only [List.length_append, List.length_singleton]; omega, by rw [HSS.out], HC1.out, HB2.out⟩
   case measure => rw [HR2.out.left_eq, HRG.out.left_eq]; exact HLT.out
end Go.Proofs.YtechceagghcipaaGreatDoor
