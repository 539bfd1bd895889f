import Derived.Test.YtechceagghcipabGreatDoorEB8
import Derived.Test.YtechceagghcipabGreatDoorEC6
import Derived.Maps.RangeWalk
import Derived.Test.YtechceagghcipabGreatDoorRA2
namespace Go.Proofs.YtechceagghcipabGreatDoor
open Go.RowKit
attribute [local go_sem ↓] Go.wp_at_zero Go.wp_at_succ
theorem rows_three {s : St7} (ho : s.Ok) : s.rows = s.rows.take s.nf ++ ((s.rows.take s.xf).drop s.nf ++ s.rows.drop s.xf) := by
 have h1 := ho.a
 have e : (s.rows.take s.xf).take s.nf = s.rows.take s.nf := by rw [List.take_take, Nat.min_eq_left h1]
 rw [<- List.append_assoc, <- e, List.take_append_drop, List.take_append_drop]
theorem filter_const {α : Type} (f : α -> Bool) {L : List α} {b : Bool} (h : ∀ x ∈ L, f x = b) : L.filter f = if b then L else [] := by
 cases b with
 | true => rw [List.filter_eq_self.2 h]; rfl
 | false => rw [List.filter_eq_nil_iff.2 fun x hx => by rw [h x hx]; simp]; rfl
theorem filt_three {s : St7} (ho : s.Ok) (parts : Int) : s.rows.filter (fun r => hp7 parts (part7 s r)) = (if hp7 parts 1 then s.rows.take s.nf else []) ++ ((if hp7 parts 2 then (s.rows.take s.xf).drop s.nf else []) ++ if hp7 parts 4 then s.rows.drop s.xf else []) := by
 have ha := ho.a
 have hb := ho.b
 have f1 : (s.rows.take s.nf).filter (fun r => hp7 parts (part7 s r)) = if hp7 parts 1 then s.rows.take s.nf else [] := filter_const _ fun x hx => by
  obtain ⟨i, hi⟩ := List.getElem?_of_mem hx
  rw [List.getElem?_take] at hi
  split at hi
  ·rename_i h1
   rw [part7_at ho hi, if_pos h1]
  ·cases hi
 have f2 : ((s.rows.take s.xf).drop s.nf).filter (fun r => hp7 parts (part7 s r)) = if hp7 parts 2 then (s.rows.take s.xf).drop s.nf else [] := filter_const _ fun x hx => by
  obtain ⟨i, hi⟩ := List.getElem?_of_mem hx
  rw [List.getElem?_drop, List.getElem?_take] at hi
  split at hi
  ·rename_i h1
   rw [part7_at ho hi, if_neg (by omega), if_pos h1]
  ·cases hi
 have f3 : (s.rows.drop s.xf).filter (fun r => hp7 parts (part7 s r)) = if hp7 parts 4 then s.rows.drop s.xf else [] := filter_const _ fun x hx => by
  obtain ⟨i, hi⟩ := List.getElem?_of_mem hx
  rw [List.getElem?_drop] at hi
  rw [part7_at ho hi, if_neg (by omega), if_neg (by omega)]
 have e : s.rows.filter (fun r => hp7 parts (part7 s r)) = (s.rows.take s.nf ++ ((s.rows.take s.xf).drop s.nf ++ s.rows.drop s.xf)).filter (fun r => hp7 parts (part7 s r)) := by rw [<- rows_three ho]
 rw [e, List.filter_append, List.filter_append, f1, f2, f3]
theorem sel_filter {s : St7} (ho : s.Ok) (parts : Int) : sel7 s parts [] [] = s.rows.filter fun r => hp7 parts (part7 s r) := by
 have r1 : rws7 s.rows (wn7 0 (s.nf : Int) (nat7 (List.range s.rows.length))) = s.rows.take s.nf := by
  have := rws_range s.rows 0 s.nf (by omega) (Nat.le_trans ho.a ho.b)
  simpa using this
 have r2 := rws_range s.rows s.nf s.xf ho.a ho.b
 have r3 : rws7 s.rows (wn7 (s.xf : Int) (s.rows.length : Int) (nat7 (List.range s.rows.length))) = s.rows.drop s.xf := by
  have := rws_range s.rows s.xf s.rows.length ho.b (Nat.le_refl _)
  simpa using this
 rw [filt_three ho, sel7, pls7_all, sts7]
 cases hp7 parts 1 <;> cases hp7 parts 2 <;> cases hp7 parts 4 <;> simp [r1, r2, r3]
theorem rsel_eq {s : St7} (ho : s.Ok) (parts : Int) : srt7 (sel7 s parts [] []) = rsel7 s parts := by rw [sel_filter ho, srt7_filter]; rfl
theorem rsel_len {s : St7} (ho : s.Ok) (parts : Int) : len7 s parts = ((rsel7 s parts).length : Int) := by
 have ha := ho.a
 have hb := ho.b
 rw [<- rsel_eq ho, (srt7_perm _).length_eq, sel_filter ho, filt_three ho, len7, sts7]
 cases hp7 parts 1 <;> cases hp7 parts 2 <;> cases hp7 parts 4 <;> simp [sum7] <;> omega
end Go.Proofs.YtechceagghcipabGreatDoor
namespace Go.Proofs.YtechceagghcipabGreatDoor
open Go.RowKit Go.Maps
attribute [local go_sem ↓] Go.wp_at_zero Go.wp_at_succ
theorem len7_bd {s : St7} (ho : s.Ok) (parts : Int) : 0 <= len7 s parts /\ len7 s parts <= 10000000000 := by
 rw [rsel_len ho]
 have h1 : (rsel7 s parts).length <= s.rows.length := by
  unfold rsel7
  exact Nat.le_trans (List.length_filter_le _ _) (Nat.le_of_eq (srt7_perm _).length_eq)
 have := ho.c
 omega
def sm8 (f : Pd -> Int) : List Pd -> Int
 | [] => 0
 | p :: l => f p + sm8 f l
theorem sm8_snoc (f : Pd -> Int) (l : List Pd) (p : Pd) : sm8 f (l ++ [p]) = sm8 f l + f p := by
 induction l with
 | nil => simp [sm8]
 | cons q l ih => simp only [List.cons_append, sm8, ih]; omega
theorem sm8_perm (f : Pd -> Int) {l l' : List Pd} (h : l.Perm l') : sm8 f l = sm8 f l' := by
 induction h with
 | nil => rfl
 | cons x _ ih => simp only [sm8, ih]
 | swap x y l => simp only [sm8]; omega
 | trans _ _ ih1 ih2 => rw [ih1, ih2]
theorem sm8_bd (f : Pd -> Int) (l : List Pd) (hf : ∀ p ∈ l, 0 <= f p /\ f p <= 10000000000) : 0 <= sm8 f l /\ sm8 f l <= (l.length : Int) * 10000000000 := by
 induction l with
 | nil => simp [sm8]
 | cons q l ih =>
  have h1 := hf q (by simp)
  have h2 := ih fun p hp => hf p (by simp [hp])
  simp only [sm8, List.length_cons]
  omega
theorem sameP8 {t u : Pd} (ht : KeyP t) (hu : KeyP u) : (kP t).sameKey (kP u) = true ↔ t = u := by
 constructor
 ·intro h
  refine kP_inj ht hu ?_
  simp only [kP, Lit.sameKey, beq_iff_eq] at h ⊢
  rw [h]
 ·rintro rfl; simp [kP, Lit.sameKey]
structure CollQ (K : List Pd) (left : Lit -> Bool) (ss : List Pd) : Prop where
 nd : ss.Nodup
 sub : ∀ t ∈ ss, t ∈ K
 mem : ∀ t ∈ K, (t ∈ ss ↔ left (kP t) = false)
theorem CollQ.step {K ss : List Pd} {left : Lit -> Bool} (h : CollQ K left ss) (hk : ∀ t ∈ K, KeyP t) {x : Pd} (hm : x ∈ K) (hl : left (kP x) = true) : CollQ K (fun z => left z && !z.sameKey (kP x)) (ss ++ [x]) := by
 have hnew : x ∉ ss := fun hx' => by have := (h.mem x hm).1 hx'; rw [hl] at this; cases this
 refine ⟨List.nodup_append.2 ⟨h.nd, by simp, fun a ha b hb => by simp at hb; subst hb; exact fun e => hnew (e ▸ ha)⟩, fun t ht => ?_, fun t ht => ?_⟩
 ·rcases List.mem_append.1 ht with ht | ht
  ·exact h.sub t ht
  ·rw [List.mem_singleton] at ht; subst ht; exact hm
 ·by_cases e : t = x
  ·subst e
   simp [(sameP8 (hk t ht) (hk t ht)).2 rfl]
  ·have : (kP t).sameKey (kP x) = false := by
    cases hs : (kP t).sameKey (kP x) with
    | false => rfl
    | true => exact absurd ((sameP8 (hk t ht) (hk x hm)).1 hs) e
   simp [h.mem t ht, this, e]
theorem CollQ.done {K ss : List Pd} {left : Lit -> Bool} (h : CollQ K left ss) (hn : K.Nodup) (hl : ∀ kl, left kl = false) : ss.Perm K :=
 (List.perm_ext_iff_of_nodup h.nd hn).2 fun t => ⟨h.sub t, fun ht => (h.mem t ht).2 (hl _)⟩
theorem BS.rng {w : World} {g : Nat} {tv : Value} {mn mr : Nat} {ga : Pd -> Nat} {B : Pd -> Nat -> Prop} {m : Nat} {T : List Tm} {K : List Pd} {s : Pd -> St7} {Y : World} (h : BS w g tv mn mr ga B m T K s Y) :
  ∃ D : DataW Value, Y.ownsMap Tryz.prog 72 rawE mr K.length D /\ Maps.size D = K.length /\ CollQ K (has D) [] /\ ∀ (x : Pd) (c : Value) (kl : Lit) (y : DataW Value × List MemPlace), keyOf Tryz.prog 72 x.v = some kl -> rawE c = some y -> (∀ zd, D.atKey kl zd = y.1) -> x ∈ K /\ kl = kP x /\ c = .pointer (some ⟨ga x, 0, none⟩) := by
 obtain ⟨D, h1, h2, h3, h4⟩ := h.r.ex
 refine ⟨D, h1, h3, ⟨List.nodup_nil, (fun t h => by cases h), fun t ht => ⟨(fun h => by cases h), fun hf => ?_⟩⟩, fun x c kl y hkey hv hat => ?_⟩
 ·have := (h4 t (h.kp t ht)).1
  rw [rlF_in ht] at this
  have e : kyP.l t = kP t := rfl
  rw [e, hf] at this
  cases this
 ·obtain ⟨x', ex, rfl, hkx⟩ := keyOf_pd_inv hkey
  obtain rfl : x = x' := by cases x; cases x'; simpa using ex
  have h5 := h4 x hkx
  have e : kyP.l x = kP x := rfl
  rw [e] at h5
  have hh := has_true_of_atKey hat
  rw [h5.1] at hh
  have hx : x ∈ K := Classical.byContradiction fun hn => by rw [rlF_out hn] at hh; cases hh
  refine ⟨hx, rfl, ?_⟩
  have h6 := h5.2 _ (rlF_in hx) (.held c)
  rw [hat] at h6
  cases hv
  injection h6
set_option maxRecDepth 20000 in
set_option maxHeartbeats 2000000 in
theorem blen8_any (w : World) (g : Nat) (tv : Value) (mn mr : Nat) (ga : Pd -> Nat) (B : Pd -> Nat -> Prop) (m : Nat) (T : List Tm) (K : List Pd) (s : Pd -> St7) (parts : Int) (Y : World) (h : BS w g tv mn mr ga B m T K s Y) (hkl : K.length <= 100000000) :
  Calls Tryz.prog 18 #[.pointer (some ⟨g, 0, none⟩), .int .i64 parts] Y fun e Y' => e = .returned (.int .i64 (sm8 (fun p => len7 (s p) parts) K)) /\ Below Y.heap.size Y Y' := by
 obtain ⟨D, hD, hsz, hc0, hin⟩ := h.rng
 have HS := hm7 h
 have HM := hm7 hD
 have HC0 := hm7 hc0
 have HIN := hm7 hin
 have c2 := h.t.b.cell (i := 2) rfl
 have gl := h.t.b.lt
 have hml := h.r.lt
 have HLN : Hid (∀ (p : Pd) (X : World), p ∈ K -> Below Y.heap.size Y X -> Calls Tryz.prog 44 #[.pointer (some ⟨ga p, 0, none⟩), .int .i64 parts] X fun e w' => e = .returned (.int .i64 (len7 (s p) parts)) /\ Below X.heap.size X w') := fun p X hp hX => ((h.pt p hp).below hX).kr.len parts
 have HBD := hm7 (fun p (hp : p ∈ K) => len7_bd (h.pt p hp).ok parts)
 obtain ⟨f, hf⟩ : ∃ f : Pd -> Int, (fun p => len7 (s p) parts) = f := ⟨_, rfl⟩
 have hf' : ∀ p, len7 (s p) parts = f p := fun p => by rw [<- hf]
 simp only [hf'] at HLN HBD
 rw [hf]
 clear h hD hc0 hin hf hf'
 go_enter Tryz.func18, Tryz.ntmps18
 go_wp2_with (at_range; refine wpList_range_own _ rfl _ 42 rfl 72 69 Tryz.lawPred Tryz.underlying42 _ mr K.length _ rfl HM.out ?_; intro w0 hrg0 hg0 hs0)
 go_frame
 go_loopw [5] (fun v wr => ∃ (left : Lit -> Bool) (cnt : Nat) (ss : List Pd), wr.ranges Tryz.prog 72 rawE mr Y.heap.size K.length D left cnt /\ ss.length + cnt <= Maps.size D /\ v = .int .i64 (sm8 f ss) /\ CollQ K left ss /\ Below Y.heap.size Y wr)
  (fun _ wr => wr.rangeLeft mr Y.heap.size)
 case atStart => exact ⟨_, _, [], hrg0, by simp, rfl, HC0.out, (Below.refl _ _).grown hg0 (Nat.le_refl _) (fun j hj => by cases hj)⟩
 case round =>
  obtain ⟨left, cnt, ss, hrg, hcs, rfl, hC, hb⟩ := hrel
  have HRG := hm7 hrg
  have HC := hm7 hC
  have HB := hm7 hb
  have hbd := sm8_bd f ss fun p hp => HBD.out p (hC.sub p hp)
  clear hrg hC hb
  go_wp2_with (at_next; refine wpList_next_ranges _ rfl _ rfl 72 Tryz.lawPred rawE (fun t : Pd => t.v) (fun c : Value => c) (fun key kl hk => by obtain ⟨x, hx, _⟩ := keyOf_pd_inv hk; exact ⟨x, hx⟩) (fun v y hv => ⟨v, rfl⟩) mr Y.heap.size K.length _ _ _ rfl HRG.out ?_ ?_)
  ·intro hc0 hl0
   have HL0 := hm7 hl0
   clear hc0 hl0
   go_wp2
   go_ret
   exact ⟨by rw [<- sm8_perm f (HC.out.done HS.out.nd HL0.out)]; rfl, HB.out⟩
  ·intro x c kl y ps w1 cnt1 hkey hlk hv hat hrg1 hlt hg1 hs1 hen
   obtain ⟨hx, rfl, rfl⟩ := HIN.out x c kl (y, ps) hkey hv hat
   have HX := hm7 hx
   have HC1 := hm7 (HC.out.step HS.out.kp hx hlk)
   have HR1 := hm7 hrg1
   have HB1 : Hid (Below Y.heap.size Y w1) := HB.out.grown hg1 HB.out.size (fun j hj => by cases hj; exact Nat.le_refl _)
   have HLT := hm7 hlt
   have hfx := HBD.out x hx
   have hb1 : (ss.length : Int) <= 100000000 := by omega
   have s0 : 0 <= sm8 f ss := hbd.1
   have s1 : sm8 f ss <= 1000000000000000000 := by omega
   have t0 := hfx.1
   have t1 := hfx.2
   obtain ⟨S, hS⟩ : ∃ S, sm8 f ss = S := ⟨_, rfl⟩
   obtain ⟨F, hF⟩ : ∃ F, f x = F := ⟨_, rfl⟩
   have HCA := hm7 (fun X hX => HLN.out x X hx hX)
   rw [hS] at s0 s1 ⊢
   rw [hF] at t0 t1 HCA
   have HSS := hm7 (show sm8 f (ss ++ [x]) = S + F by rw [sm8_snoc, hS, hF])
   obtain ⟨gx, hgx⟩ : ∃ gx, ga x = gx := ⟨_, rfl⟩
   rw [hgx] at HCA hen ⊢
   clear hx hat hlk hkey hrg1 hg1 hs1 hv HC hlt hfx hS hF hbd hb1 HLN hgx
   obtain ⟨xn, xa⟩ := x
   try simp only at hen
   go_wp2_with (go_at_call 44; refine (HCA.out _ HB1.out).mono ?_; clear HCA; rintro e w2 ⟨rfl, hb⟩; have HB2 := hm7 (below_step HB1.out hb); have HR2 := hm7 (HR1.out.kept (below_grown hb) (by simp) (by simp)); clear hb)
   go_roundw
   case rel => exact ⟨_, cnt1, _, HR2.out, by have := HLT.out; simp only [List.length_append, List.length_singleton]; omega, by rw [HSS.out], HC1.out, HB2.out⟩
   case measure => rw [HR2.out.left_eq, HRG.out.left_eq]; exact HLT.out
end Go.Proofs.YtechceagghcipabGreatDoor
namespace Go.Proofs.YtechceagghcipabGreatDoor
open Go.RowKit Go.Maps
attribute [local go_sem ↓] Go.wp_at_zero Go.wp_at_succ
open Classical in
noncomputable def tn8 (ss : List Pd) (s : Pd -> St7) : Pd -> St7 := fun q => if q ∈ ss then Turn7 (s q) else s q
theorem tn8_nil (s : Pd -> St7) : tn8 [] s = s := funext fun q => if_neg (by simp)
theorem tn8_snoc {ss : List Pd} {x : Pd} (s : Pd -> St7) : up8 (tn8 ss s) x (Turn7 (s x)) = tn8 (ss ++ [x]) s := by
 funext q
 by_cases e : q = x
 ·subst e
  rw [up8_same]
  exact (if_pos (by simp)).symm
 ·rw [up8_other _ _ e]
  unfold tn8
  by_cases h : q ∈ ss
  ·rw [if_pos h, if_pos (by simp [h])]
  ·rw [if_neg h, if_neg (by simp [h, e])]
theorem tn8_perm {ss K : List Pd} (s : Pd -> St7) (h : ss.Perm K) : tn8 ss s = tn8 K s := by
 funext q
 unfold tn8
 by_cases hq : q ∈ ss
 ·rw [if_pos hq, if_pos (h.mem_iff.1 hq)]
 ·rw [if_neg hq, if_neg (fun hk => hq (h.mem_iff.2 hk))]
theorem ranges_same8 {w w' : World} {P : Program} {k : TypeId} {R : Value -> Option (DataW Value × List MemPlace)} {b r n : Nat} {D : DataW Value} {left : Lit -> Bool} {cnt : Nat} (h : w.ranges P k R b r n D left cnt) (hb : w'.heap[b]? = w.heap[b]?) (hr : w'.heap[r]? = w.heap[r]?) : w'.ranges P k R b r n D left cnt := by
 obtain ⟨es, clock, since, seen, c0, h1, h2, h3, h4, h5, h6⟩ := h
 exact ⟨es, clock, since, seen, c0, hb.trans h1, h2, h3, h4, hr.trans h5, h6⟩
structure TU8 (w : World) (g : Nat) (tv : Value) (mn mr : Nat) (ga : Pd -> Nat) (B : Pd -> Nat -> Prop) (m : Nat) (T : List Tm) (K : List Pd) (s : Pd -> St7) (Y : World) (ss : List Pd) (wr : World) : Prop where
 ex : ∃ B', BS w g tv mn mr ga B' m T K (tn8 ss s) wr /\ ∀ b, PA8 g tv mn mr B' K b -> PA8 g tv mn mr B K b ∨ Y.heap.size < b
 fr : Fr (fun b => PA8 g tv mn mr B K b) Y wr
 sz : Y.heap.size < wr.heap.size
section
variable {w : World} {g : Nat} {tv : Value} {mn mr : Nat} {ga : Pd -> Nat} {B : Pd -> Nat -> Prop} {m : Nat} {T : List Tm} {K : List Pd} {s : Pd -> St7} {Y : World} {ss : List Pd} {wr w1 : World}
theorem TU8.it (h : TU8 w g tv mn mr ga B m T K s Y ss wr) (hY : BS w g tv mn mr ga B m T K s Y) (hg : wr.grownBy w1 (some Y.heap.size)) : TU8 w g tv mn mr ga B m T K s Y ss w1 := by
 obtain ⟨B', h1, h2⟩ := h.ex
 have hf : Fr (fun b => b = Y.heap.size) wr w1 := Fr.grown hg fun b e => by cases e; rfl
 refine ⟨⟨B', h1.fr hf (fun b e _ hq => ?_) (fun b e _ => by subst e; exact hY.bl.size), h2⟩, h.fr.trans hf fun b hl e => by omega, Nat.lt_of_lt_of_le h.sz hf.size⟩
 subst e
 rcases h2 _ hq with q | q
 ·have := (hY.lt q).2; omega
 ·omega
theorem TU8.turn (h : TU8 w g tv mn mr ga B m T K s Y ss wr) (hY : BS w g tv mn mr ga B m T K s Y) {x : Pd} (hx : x ∈ K) (hn : x ∉ ss) :
  Calls Tryz.prog 41 #[.pointer (some ⟨ga x, 0, none⟩)] wr fun e w2 => e = .returned (.int .i64 (((s x).rows.length : Int) - ((s x).xf : Int))) /\ TU8 w g tv mn mr ga B m T K s Y (ss ++ [x]) w2 /\ w2.heap[mr]? = wr.heap[mr]? /\ w2.heap[Y.heap.size]? = wr.heap[Y.heap.size]? := by
 obtain ⟨B', h1, h2⟩ := h.ex
 have hs := h.sz
 have e : tn8 ss s x = s x := if_neg hn
 have hp := h1.pt x hx
 rw [e] at hp
 refine hp.turn.mono ?_
 rintro e' w2 ⟨rfl, hpx⟩
 obtain ⟨N, hbs, hf, hN⟩ := h1.one hx hpx
 rw [tn8_snoc] at hbs
 have hz := hf.size
 refine ⟨rfl, ⟨⟨_, hbs, fun b hb => ?_⟩, h.fr.trans hf fun b hl hq => ?_, by omega⟩, hf.block mr h1.r.lt fun hq => (h1.ap x hx _ hq).2 rfl, hf.block _ hs fun hq => ?_⟩
 ·rcases PA8.up8 hb with q | q
  ·exact h2 b q
  ·rcases hN b q with q | q
   ·exact h2 b (Or.inr (Or.inr ⟨x, hx, q⟩))
   ·exact Or.inr (by omega)
 ·rcases h2 b (Or.inr (Or.inr ⟨x, hx, hq⟩)) with q | q
  ·exact q
  ·omega
 ·rcases h2 _ (Or.inr (Or.inr ⟨x, hx, hq⟩)) with q | q
  ·have := (hY.lt q).2; omega
  ·omega
end
set_option maxRecDepth 20000 in
set_option maxHeartbeats 2000000 in
theorem bturn8_any (w : World) (g : Nat) (tv : Value) (mn mr : Nat) (ga : Pd -> Nat) (B : Pd -> Nat -> Prop) (m : Nat) (T : List Tm) (K : List Pd) (s : Pd -> St7) (Y : World) (h : BS w g tv mn mr ga B m T K s Y) (hkl : K.length <= 100000000) :
  Calls Tryz.prog 14 #[.pointer (some ⟨g, 0, none⟩)] Y fun e Y' => e = .returned (.int .i64 (sm8 (fun p => ((s p).rows.length : Int) - ((s p).xf : Int)) K)) /\ BX8 w g mn mr m T K (tn8 K s) (PA8 g tv mn mr B K) Y Y' := by
 obtain ⟨D, hD, hsz, hc0, hin⟩ := h.rng
 have HS := hm7 h
 have HM := hm7 hD
 have HC0 := hm7 hc0
 have HIN := hm7 hin
 have c2 := h.t.b.cell (i := 2) rfl
 have gl := h.t.b.lt
 have hml := h.r.lt
 have HBD : Hid (∀ p ∈ K, 0 <= ((s p).rows.length : Int) - ((s p).xf : Int) /\ ((s p).rows.length : Int) - ((s p).xf : Int) <= 10000000000) := fun p hp => by
  have ho := (h.pt p hp).ok
  have := ho.b
  have := ho.c
  omega
 have HTN : Hid (∀ (ss : List Pd) (x : Pd) (wr : World), TU8 w g tv mn mr ga B m T K s Y ss wr -> x ∈ K -> x ∉ ss -> Calls Tryz.prog 41 #[.pointer (some ⟨ga x, 0, none⟩)] wr fun e w2 => e = .returned (.int .i64 (((s x).rows.length : Int) - ((s x).xf : Int))) /\ TU8 w g tv mn mr ga B m T K s Y (ss ++ [x]) w2 /\ w2.heap[mr]? = wr.heap[mr]? /\ w2.heap[Y.heap.size]? = wr.heap[Y.heap.size]?) := fun ss x wr ht hx hn => ht.turn h hx hn
 have HT0 : Hid (∀ w0 : World, Y.grownBy w0 none -> w0.heap.size = Y.heap.size + 1 -> TU8 w g tv mn mr ga B m T K s Y [] w0) := fun w0 hg hz => by
  have hf : Fr (fun b => PA8 g tv mn mr B K b) Y w0 := Fr.grown hg fun b e => by cases e
  have hf0 : Fr (fun _ => False) Y w0 := Fr.grown hg fun b e => by cases e
  exact ⟨⟨B, by rw [tn8_nil]; exact h.fr hf0 (fun _ h => h.elim) fun _ h => h.elim, fun b hb => Or.inl hb⟩, hf, by omega⟩
 obtain ⟨f, hf⟩ : ∃ f : Pd -> Int, (fun p => ((s p).rows.length : Int) - ((s p).xf : Int)) = f := ⟨_, rfl⟩
 have hf' : ∀ p, ((s p).rows.length : Int) - ((s p).xf : Int) = f p := fun p => by rw [<- hf]
 simp only [hf'] at HTN HBD
 rw [hf]
 clear h hD hc0 hin hf hf'
 go_enter Tryz.func14, Tryz.ntmps14
 go_wp2_with (at_range; refine wpList_range_own _ rfl _ 42 rfl 72 69 Tryz.lawPred Tryz.underlying42 _ mr K.length _ rfl HM.out ?_; intro w0 hrg0 hg0 hs0)
 go_frame
 go_loopw [3] (fun v wr => ∃ (left : Lit -> Bool) (cnt : Nat) (ss : List Pd), wr.ranges Tryz.prog 72 rawE mr Y.heap.size K.length D left cnt /\ ss.length + cnt <= Maps.size D /\ v = .int .i64 (sm8 f ss) /\ CollQ K left ss /\ TU8 w g tv mn mr ga B m T K s Y ss wr)
  (fun _ wr => wr.rangeLeft mr Y.heap.size)
 case atStart => exact ⟨_, _, [], hrg0, by simp, rfl, HC0.out, HT0.out _ hg0 hs0⟩
 case round =>
  obtain ⟨left, cnt, ss, hrg, hcs, rfl, hC, hb⟩ := hrel
  have HRG := hm7 hrg
  have HC := hm7 hC
  have HB := hm7 hb
  have hbd := sm8_bd f ss fun p hp => HBD.out p (hC.sub p hp)
  clear hrg hC hb
  go_wp2_with (at_next; refine wpList_next_ranges _ rfl _ rfl 72 Tryz.lawPred rawE (fun t : Pd => t.v) (fun c : Value => c) (fun key kl hk => by obtain ⟨x, hx, _⟩ := keyOf_pd_inv hk; exact ⟨x, hx⟩) (fun v y hv => ⟨v, rfl⟩) mr Y.heap.size K.length _ _ _ rfl HRG.out ?_ ?_)
  ·intro hc0 hl0
   have HL0 := hm7 hl0
   clear hc0 hl0
   go_wp2
   go_ret
   have hpm := HC.out.done HS.out.nd HL0.out
   obtain ⟨B', h1, h2⟩ := HB.out.ex
   rw [tn8_perm s hpm] at h1
   exact ⟨by rw [<- sm8_perm f hpm]; rfl, tv, ga, B', h1, HB.out.fr, fun b hb => (h2 b hb).imp id Nat.le_of_lt⟩
  ·intro x c kl y ps w1 cnt1 hkey hlk hv hat hrg1 hlt hg1 hs1 hen
   obtain ⟨hx, rfl, rfl⟩ := HIN.out x c kl (y, ps) hkey hv hat
   have hnx : x ∉ ss := fun hq => by have := (HC.out.mem x hx).1 hq; rw [hlk] at this; cases this
   have HC1 := hm7 (HC.out.step HS.out.kp hx hlk)
   have HR1 := hm7 hrg1
   have HB1 := hm7 (HB.out.it HS.out hg1)
   have HLT := hm7 hlt
   have hfx := HBD.out x hx
   have hb1 : (ss.length : Int) <= 100000000 := by omega
   have s0 : 0 <= sm8 f ss := hbd.1
   have s1 : sm8 f ss <= 1000000000000000000 := by omega
   have t0 := hfx.1
   have t1 := hfx.2
   obtain ⟨S, hS⟩ : ∃ S, sm8 f ss = S := ⟨_, rfl⟩
   obtain ⟨F, hF⟩ : ∃ F, f x = F := ⟨_, rfl⟩
   have HCA := hm7 (HTN.out ss x w1 HB1.out hx hnx)
   rw [hS] at s0 s1 ⊢
   rw [hF] at t0 t1 HCA
   have HSS := hm7 (show sm8 f (ss ++ [x]) = S + F by rw [sm8_snoc, hS, hF])
   obtain ⟨gx, hgx⟩ : ∃ gx, ga x = gx := ⟨_, rfl⟩
   rw [hgx] at HCA hen ⊢
   clear hx hat hlk hkey hrg1 hg1 hs1 hv HC hlt hfx hS hF hbd hb1 HTN hgx hnx
   obtain ⟨xn, xa⟩ := x
   try simp only at hen
   go_wp2_with (go_at_call 41; refine HCA.out.mono ?_; clear HCA; rintro e w2 ⟨rfl, ht, e1, e2⟩; have HB2 := hm7 ht; have HR2 := hm7 (ranges_same8 HR1.out e1 e2); clear ht e1 e2)
   go_roundw
   case rel => exact ⟨_, cnt1, _, HR2.out, by have := HLT.out; simp only [List.length_append, List.length_singleton]; omega, by rw [HSS.out], HC1.out, HB2.out⟩
   case measure => rw [HR2.out.left_eq, HRG.out.left_eq]; exact HLT.out
end Go.Proofs.YtechceagghcipabGreatDoor
namespace Go.Proofs.YtechceagghcipabGreatDoor
open Go.RowKit
attribute [local go_sem ↓] Go.wp_at_zero Go.wp_at_succ
def fxC (L : List Tm) : List Int := (L.zipIdx.filter fun x => !x.1.var).map fun x => (x.2 : Int)
def fxK (T L : List Tm) : List Int := (L.filter fun t => !t.var).map fun t => (((ix8 T t).getD 0 : Nat) : Int)
def fxB (T L : List Tm) : Bool := L.all fun t => t.var || (ix8 T t).isSome
theorem fxC_snoc (L : List Tm) (t : Tm) : fxC (L ++ [t]) = fxC L ++ if t.var then [] else [(L.length : Int)] := by
 unfold fxC
 rw [List.zipIdx_append]
 cases h : t.var <;> simp [h]
theorem fxK_snoc (T L : List Tm) (t : Tm) : fxK T (L ++ [t]) = fxK T L ++ if t.var then [] else [(((ix8 T t).getD 0 : Nat) : Int)] := by
 unfold fxK
 cases h : t.var <;> simp [h]
theorem fxB_not {T L : List Tm} {t : Tm} {j : Nat} (h : L[j]? = some t) (hv : t.var = false) (hn : ix8 T t = none) : fxB T L = false := by
 unfold fxB
 rw [List.all_eq_false]
 exact ⟨t, List.mem_of_getElem? h, by simp [hn, hv]⟩
theorem fxB_all {T L : List Tm} (h : ∀ t ∈ L, t.var = false -> (ix8 T t).isSome = true) : fxB T L = true := List.all_eq_true.2 fun t ht => by
 cases hv : t.var
 ·simp [h t ht hv]
 ·rfl
theorem fx_len (T L : List Tm) : (fxC L).length <= L.length /\ (fxK T L).length <= L.length := by
 unfold fxC fxK
 rw [List.length_map, List.length_map]
 exact ⟨Nat.le_trans (List.length_filter_le _ _) (by simp), List.length_filter_le _ _⟩
structure FX8 (T L : List Tm) (lv : Value) (Y : World) (j : Nat) (cv kv : Value) (w : World) : Prop where
 al : ∀ t ∈ L.take j, t.var = false -> (ix8 T t).isSome = true
 c : OwI w Y.heap.size cv (fxC (L.take j))
 k : OwI w Y.heap.size kv (fxK T (L.take j))
 n : ∀ b, cv.ownBlock = some b -> kv.ownBlock ≠ some b
 l : OwnT w Y.heap.size lv L
 b : Below Y.heap.size Y w
theorem FX8.below {T L : List Tm} {lv : Value} {Y : World} {j : Nat} {cv kv : Value} {w w' : World} (h : FX8 T L lv Y j cv kv w) (hb : Below w.heap.size w w') : FX8 T L lv Y j cv kv w' := ⟨h.al, row7_below h.c hb, row7_below h.k hb, h.n, row7_below h.l hb, below_step h.b hb⟩
theorem FX8.var {T L : List Tm} {lv : Value} {Y : World} {j : Nat} {cv kv : Value} {w : World} (h : FX8 T L lv Y j cv kv w) {t : Tm} (ht : L[j]? = some t) (hv : t.var = true) : FX8 T L lv Y (j + 1) cv kv w := by
 have et : L.take (j + 1) = L.take j ++ [t] := by rw [List.take_add_one, ht]; rfl
 refine ⟨?_, ?_, ?_, h.n, h.l, h.b⟩
 ·rw [et]
  intro u hu hq
  rcases List.mem_append.1 hu with hu | hu
  ·exact h.al u hu hq
  ·rw [List.mem_singleton.1 hu, hv] at hq; cases hq
 ·rw [et, fxC_snoc, if_pos hv, List.append_nil]; exact h.c
 ·rw [et, fxK_snoc, if_pos hv, List.append_nil]; exact h.k
theorem FX8.con {T L : List Tm} {lv : Value} {Y : World} {j : Nat} {cv kv : Value} {w : World} (h : FX8 T L lv Y j cv kv w) {t : Tm} (ht : L[j]? = some t) (hv : t.var = false) {p : Nat} (hp : ix8 T t = some p) {g2 c2 : Nat} {U2 : World}
  (ho : U2.ownsRow Y.heap.size 3 1 (.slice (some ⟨g2, 0, none⟩) ((fxC (L.take j)).length + 1) c2) ((fxC (L.take j)).length + 1) (ibs7 (fxC (L.take j)) ++ [.int .i64 (j : Int)])) (hf : Fr (fun b => cv.ownBlock = some b) w U2) (hg : cv.ownBlock = some g2 ∨ w.heap.size <= g2) :
  OwI U2 Y.heap.size kv (fxK T (L.take j)) /\ ∀ (g3 c3 : Nat) (U3 : World), U3.ownsRow Y.heap.size 3 1 (.slice (some ⟨g3, 0, none⟩) ((fxK T (L.take j)).length + 1) c3) ((fxK T (L.take j)).length + 1) (ibs7 (fxK T (L.take j)) ++ [.int .i64 (p : Int)]) -> Fr (fun b => kv.ownBlock = some b) U2 U3 -> (kv.ownBlock = some g3 ∨ U2.heap.size <= g3) -> FX8 T L lv Y (j + 1) (.slice (some ⟨g2, 0, none⟩) ((fxC (L.take j)).length + 1) c2) (.slice (some ⟨g3, 0, none⟩) ((fxK T (L.take j)).length + 1) c3) U3 := by
 have et : L.take (j + 1) = L.take j ++ [t] := by rw [List.take_add_one, ht]; rfl
 have hj : (L.take j).length = j := by rw [List.length_take]; have := (List.getElem?_eq_some_iff.1 ht).1; omega
 have hk := row7_fr h.k hf fun b hb e => h.n b e hb
 have hg2 : kv.ownBlock ≠ some g2 := fun e => by
  rcases hg with q | q
  ·exact h.n g2 q e
  ·have := (h.k.lt g2 e).2; omega
 have hl2 := row7_fr h.l hf fun b hb hq => row7_ne h.c h.l (by decide) b hq hb
 refine ⟨hk, fun g3 c3 U3 ho3 hf3 hg3 => ⟨?_, ?_, ?_, ?_, ?_, ?_⟩⟩
 ·rw [et]
  intro u hu hq
  rcases List.mem_append.1 hu with hu | hu
  ·exact h.al u hu hq
  ·rw [List.mem_singleton.1 hu, hp]; rfl
 ·rw [et, fxC_snoc, if_neg (by simp [hv]), hj]
  exact OwI.snoc (row7_fr ho hf3 fun b hb e => by cases hb; exact hg2 e)
 ·rw [et, fxK_snoc, if_neg (by simp [hv]), hp]
  exact OwI.snoc ho3
 ·intro b hb hb'
  cases hb
  cases hb'
  rcases hg3 with q | q
  ·exact hg2 q
  ·have := (ho.lt g2 rfl).2; omega
 ·exact row7_fr hl2 hf3 fun b hb hq => row7_ne hk hl2 (by decide) b hq hb
 ·have q1 : Fr (fun b => Y.heap.size <= b) w U2 := hf.mono fun b _ hq => (h.c.lt b hq).1
  have q2 : Fr (fun b => Y.heap.size <= b) U2 U3 := hf3.mono fun b _ hq => (h.k.lt b hq).1
  exact h.b.trans ((q1.tr q2).low h.b.size)
def Fx8 (T L : List Tm) (Y : World) (e : Ending) (Y' : World) : Prop :=
 ∃ cv kv, e = .returned (.tuple #[cv, kv, .bool (fxB T L)]) /\ (fxB T L = true -> OwI Y' Y.heap.size cv (fxC L) /\ OwI Y' Y.heap.size kv (fxK T L)) /\ Below Y.heap.size Y Y'
set_option maxRecDepth 20000 in
set_option maxHeartbeats 2000000 in
theorem fixed8_any (g : Nat) (tv : Value) (mn : Nat) (rm : Value) (T : List Tm) (a : At) (x : Value) (Y : World) (h : TB8 g tv mn rm T Y) (hx : TsP Y x a.args) (hk : ∀ t ∈ a.pl, t.var = false -> KeyT t) (hl : a.pl.length <= 1000000000) :
  Calls Tryz.prog 119 #[.pointer (some ⟨g, 0, none⟩), a.v x] Y (Fx8 T a.pl Y) := by
 have hb0 := below1 Y (.cells #[.int .i64 a.by_.k, .int .i64 a.by_.n, .string a.by_.s, .string a.name, x] 33)
 have hm : a.args.length <= 100000000000 := by have : a.pl.length = a.args.length + 1 := rfl; omega
 have HTM : Hid (∀ X : World, Below Y.heap.size Y X -> Calls Tryz.prog 63 #[a.v x] X fun e Y' => ∃ v, e = .returned v /\ OwnT Y' X.heap.size v a.pl /\ Below X.heap.size X Y') := fun X hX => terms8_any a x X (hx.later hX) hm
 have H := hm7 h
 obtain ⟨⟨q0, q1⟩, q2, q3, q4⟩ := five8 (Bk.new Y #[.int .i64 a.by_.k, .int .i64 a.by_.n, .string a.by_.s, .string a.name, x] 33)
 have HB0 := hm7 hb0
 obtain ⟨L, hL⟩ : ∃ L, a.pl = L := ⟨_, rfl⟩
 obtain ⟨n, hn⟩ : ∃ n, L.length = n := ⟨_, rfl⟩
 rw [hL] at HTM hl hk ⊢
 have HN := hm7 hn
 rw [hn] at hl
 obtain ⟨ax, cx, rfl⟩ := hx.shape
 clear h hb0 hx hm
 obtain ⟨⟨k, m, s⟩, nm, l⟩ := a
 clear hL
 go_enter Tryz.func119, Tryz.ntmps119
 go_wp2_with (go_at_call 63; refine (HTM.out _ HB0.out).mono ?_; clear HTM; rintro e w1 ⟨lv, rfl, ho, hb⟩; obtain ⟨la, lc, elv, -⟩ := row7_form ho; rw [HN.out] at elv; subst elv; have HL1 := hm7 (ho.mono (b' := Y.heap.size) HB0.out.size); have HB1 := hm7 (below_step HB0.out hb); clear ho hb)
 go_loopg [14, 4, 5] n (fun gg i cv kv wr => ∃ (j : Nat), j + gg = n /\ i = .int .i64 j /\ FX8 T L (.slice la n lc) Y j cv kv wr)
 case atStart => exact ⟨0, by omega, rfl, by simp, OwI.nil _ _, OwI.nil _ _, nofun, HL1.out, HB1.out⟩
 case round =>
  obtain ⟨j, hj, rfl, hw⟩ := hrel
  have HF := hm7 hw
  cases gk with
  | succ gg =>
   have hlt : (j : Int) < (n : Int) := by omega
   have j0 : (0 : Int) <= (j : Int) := by omega
   obtain ⟨t, ht⟩ : ∃ t, L[j]? = some t := ⟨_, List.getElem?_eq_getElem (by have := HN.out; omega)⟩
   have hkt := hk _ (List.mem_of_getElem? ht)
   have hva := var_any t
   obtain ⟨tk, tn, ts⟩ := t
   have HT := hm7 ht
   obtain ⟨ca, cc, ecv, -⟩ := row7_form hw.c
   obtain ⟨ka, kc, ekv, -⟩ := row7_form hw.k
   obtain ⟨rn, hrn⟩ : ∃ rn, (fxC (L.take j)).length = rn := ⟨_, rfl⟩
   obtain ⟨kn, hkn⟩ : ∃ kn, (fxK T (L.take j)).length = kn := ⟨_, rfl⟩
   rw [hrn] at ecv
   rw [hkn] at ekv
   subst ecv ekv
   have HRN := hm7 hrn
   have HKN := hm7 hkn
   have HLE := hm7 (show rn <= 1000000000 /\ kn <= 1000000000 by have := fx_len T (L.take j); rw [List.length_take] at this; omega)
   obtain ⟨gl, hgl⟩ : ∃ gl, la = some ⟨gl, 0, none⟩ := by
    rcases hw.l.2 with ⟨h1, h2⟩ | ⟨G, cap', cur, hv, -⟩
    ·simp only [Value.slice.injEq] at h1; omega
    ·simp only [Value.slice.injEq] at hv; exact ⟨G, hv.1⟩
   subst hgl
   obtain ⟨c0, c1, c2⟩ := ownT_cells hw.l j _ ht
   have HW0 : Hid (Bk _ _ _ _) := Bk.new wr #[.int .i64 tk, .int .i64 tn, .string ts] 30
   have hbw := below1 wr (.cells #[.int .i64 tk, .int .i64 tn, .string ts] 30)
   have HBW := hm7 hbw
   have b0 := HW0.out.cell (i := 0) rfl
   have b1 := HW0.out.cell (i := 1) rfl
   have b2 := HW0.out.cell (i := 2) rfl
   cases hv : (⟨tk, tn, ts⟩ : Tm).var with
   | true =>
    rw [hv] at hva
    have HV := hm7 hv
    have HVA : Hid (∀ X : World, Calls Tryz.prog 61 #[.agg #[.int .i64 tk, .int .i64 tn, .string ts]] X fun e w' => e = .returned (.bool true) /\ Below X.heap.size X w') := fun X => hva X
    clear hw ht hrn hkn hbw hkt hv hva
    go_wp2_with (go_at_call 61; refine (HVA.out _).mono ?_; clear HVA; rintro e w3 ⟨rfl, hb⟩; have HB3 := hm7 hb; clear hb)
    go_roundg gg
    case measure => omega
    case rel => exact ⟨j + 1, by omega, by go_num, ((HF.out.below HBW.out).below HB3.out).var HT.out HV.out⟩
   | false =>
    rw [hv] at hva
    have HV := hm7 hv
    have HVA : Hid (∀ X : World, Calls Tryz.prog 61 #[.agg #[.int .i64 tk, .int .i64 tn, .string ts]] X fun e w' => e = .returned (.bool false) /\ Below X.heap.size X w') := fun X => hva X
    have hkt := hkt hv
    cases hi : ix8 T ⟨tk, tn, ts⟩ with
    | none =>
     have HKN8 := hm7 (fxB_not ht hv hi)
     have HNU : Hid (∀ X : World, Below Y.heap.size Y X -> Calls Tryz.prog 74 #[.pointer (some ⟨g, 0, none⟩), .agg #[.int .i64 tk, .int .i64 tn, .string ts]] X fun e Y' => e = .returned (.tuple #[.int .i64 0, .bool false]) /\ Below X.heap.size X Y') := fun X hX => by
      have := number8_any g tv mn rm T ⟨tk, tn, ts⟩ X (H.out.below hX) hkt
      rw [hi] at this
      exact this
     clear hw ht hrn hkn hbw hkt hv hva hi
     go_upto_region 5 with (go_at_call 61; refine (HVA.out _).mono ?_; clear HVA; rintro e W1 ⟨rfl, hb⟩; have HB3 := hm7 hb; clear hb)
     have HW1 := hm7 (HW0.out.below HB3.out)
     have HF1 := hm7 ((HF.out.below HBW.out).below HB3.out)
     have HNB : Hid (∀ X : World, Below W1.heap.size W1 X -> Calls Tryz.prog 74 #[.pointer (some ⟨g, 0, none⟩), .agg #[.int .i64 tk, .int .i64 tn, .string ts]] X fun e Y' => e = .returned (.tuple #[.int .i64 0, .bool false]) /\ Below X.heap.size X Y') := fun X hX => HNU.out X (below_step HF1.out.b hX)
     clear HNU HW0 HBW HB3 b0 b1 b2 c0 c1 c2
     refine wp_region_held_drew (S := fun w' => Below W1.heap.size W1 w') (by kernel_rfl) (by exact (Below.refl _ _).drew) (fun hH => ?_)
     revert hH
     generalize W1.drew = V0
     intro hH
     refine wTl 0 (.pointer (some ⟨g, 0, none⟩)) rfl (by kernel_rfl) (fun _ _ _ h => h) rfl (fun w' h => by clear h; go_simp) hH ?_
     simp only [wA, wB, wC, wD]
     refine wTl 1 (.pointer (some ⟨g, 0, none⟩)) rfl (by kernel_rfl) (fun _ _ _ h => h) rfl (fun w' h => by clear h; go_simp) hH ?_
     simp only [wA, wB, wC, wD]
     refine wTl 2 (.pointer (some ⟨g, 0, none⟩)) rfl (by kernel_rfl) (fun _ _ _ h => h) rfl (fun w' h => by clear h; go_simp) hH ?_
     simp only [wA, wB, wC, wD]
     refine wTl 3 (.agg #[.int .i64 tk, .int .i64 tn, .string ts]) rfl (by kernel_rfl) (fun _ _ _ h => h) rfl (fun w' h => by have q0 := (HW1.out.below h).cell (i := 0) rfl; have q1 := (HW1.out.below h).cell (i := 1) rfl; have q2 := (HW1.out.below h).cell (i := 2) rfl; clear h; go_simp) hH ?_
     simp only [wA, wB, wC, wD]
     refine wRd 4 (by kernel_rfl) rfl (fun K hK => ?_)
     go_simp
     refine (HNB.out _ hH).mono ?_
     rintro e U ⟨rfl, hb⟩
     refine hK.out _ _ (hH.trans (hb.mono hH.size)) (fun hH => ?_)
     clear hK K hb
     try simp only [wA, wB, wC, wD]
     refine wTl 5 (.tuple #[.int .i64 0, .bool false]) rfl (by kernel_rfl) (fun _ _ _ h => h) rfl (fun w' h => by clear h; go_simp) hH ?_
     simp only [wA, wB, wC, wD]
     refine wTl 6 (.int .i64 0) rfl (by kernel_rfl) (fun _ _ _ h => h) rfl (fun w' h => by clear h; go_simp) hH ?_
     simp only [wA, wB, wC, wD]
     refine wTl 7 (.bool false) rfl (by kernel_rfl) (fun _ _ _ h => h) rfl (fun w' h => by clear h; go_simp) hH ?_
     simp only [wA, wB, wC, wD]
     refine wTl 8 (.int .i64 0) rfl (by kernel_rfl) (fun _ _ _ h => h) rfl (fun w' h => by clear h; go_simp) hH ?_
     simp only [wA, wB, wC, wD]
     refine wTl 9 (.bool false) rfl (by kernel_rfl) (fun _ _ _ h => h) rfl (fun w' h => by clear h; go_simp) hH ?_
     simp only [wA, wB, wC, wD]
     refine wpAnyH_done (by kernel_rfl) ?_ _
     have HU := hm7 hH
     clear hH
     go_wp2
     go_ret3
     exact ⟨.slice none 0 0, .slice none 0 0, by rw [HKN8.out]; rfl, fun e => (by rw [HKN8.out] at e; cases e), below_step HF1.out.b HU.out⟩
    | some p =>
     have HI := hm7 hi
     have HNU : Hid (∀ X : World, Below Y.heap.size Y X -> Calls Tryz.prog 74 #[.pointer (some ⟨g, 0, none⟩), .agg #[.int .i64 tk, .int .i64 tn, .string ts]] X fun e Y' => e = .returned (.tuple #[.int .i64 (p : Int), .bool true]) /\ Below X.heap.size X Y') := fun X hX => by
      have := number8_any g tv mn rm T ⟨tk, tn, ts⟩ X (H.out.below hX) hkt
      rw [hi] at this
      exact this
     clear hw ht hrn hkn hbw hkt hv hva hi
     go_upto_region 5 with (go_at_call 61; refine (HVA.out _).mono ?_; clear HVA; rintro e W1 ⟨rfl, hb⟩; have HB3 := hm7 hb; clear hb)
     have HW1 := hm7 (HW0.out.below HB3.out)
     have HF1 := hm7 ((HF.out.below HBW.out).below HB3.out)
     have HNB : Hid (∀ X : World, Below W1.heap.size W1 X -> Calls Tryz.prog 74 #[.pointer (some ⟨g, 0, none⟩), .agg #[.int .i64 tk, .int .i64 tn, .string ts]] X fun e Y' => e = .returned (.tuple #[.int .i64 (p : Int), .bool true]) /\ Below X.heap.size X Y') := fun X hX => HNU.out X (below_step HF1.out.b hX)
     clear HNU HW0 HBW HB3 b0 b1 b2 c0 c1 c2
     refine wp_region_held_drew (S := fun w' => Below W1.heap.size W1 w') (by kernel_rfl) (by exact (Below.refl _ _).drew) (fun hH => ?_)
     revert hH
     generalize W1.drew = V0
     intro hH
     refine wTl 0 (.pointer (some ⟨g, 0, none⟩)) rfl (by kernel_rfl) (fun _ _ _ h => h) rfl (fun w' h => by clear h; go_simp) hH ?_
     simp only [wA, wB, wC, wD]
     refine wTl 1 (.pointer (some ⟨g, 0, none⟩)) rfl (by kernel_rfl) (fun _ _ _ h => h) rfl (fun w' h => by clear h; go_simp) hH ?_
     simp only [wA, wB, wC, wD]
     refine wTl 2 (.pointer (some ⟨g, 0, none⟩)) rfl (by kernel_rfl) (fun _ _ _ h => h) rfl (fun w' h => by clear h; go_simp) hH ?_
     simp only [wA, wB, wC, wD]
     refine wTl 3 (.agg #[.int .i64 tk, .int .i64 tn, .string ts]) rfl (by kernel_rfl) (fun _ _ _ h => h) rfl (fun w' h => by have q0 := (HW1.out.below h).cell (i := 0) rfl; have q1 := (HW1.out.below h).cell (i := 1) rfl; have q2 := (HW1.out.below h).cell (i := 2) rfl; clear h; go_simp) hH ?_
     simp only [wA, wB, wC, wD]
     refine wRd 4 (by kernel_rfl) rfl (fun K hK => ?_)
     go_simp
     refine (HNB.out _ hH).mono ?_
     rintro e U ⟨rfl, hb⟩
     refine hK.out _ _ (hH.trans (hb.mono hH.size)) (fun hH => ?_)
     clear hK K hb
     try simp only [wA, wB, wC, wD]
     refine wTl 5 (.tuple #[.int .i64 (p : Int), .bool true]) rfl (by kernel_rfl) (fun _ _ _ h => h) rfl (fun w' h => by clear h; go_simp) hH ?_
     simp only [wA, wB, wC, wD]
     refine wTl 6 (.int .i64 (p : Int)) rfl (by kernel_rfl) (fun _ _ _ h => h) rfl (fun w' h => by clear h; go_simp) hH ?_
     simp only [wA, wB, wC, wD]
     refine wTl 7 (.bool true) rfl (by kernel_rfl) (fun _ _ _ h => h) rfl (fun w' h => by clear h; go_simp) hH ?_
     simp only [wA, wB, wC, wD]
     refine wTl 8 (.int .i64 (p : Int)) rfl (by kernel_rfl) (fun _ _ _ h => h) rfl (fun w' h => by clear h; go_simp) hH ?_
     simp only [wA, wB, wC, wD]
     refine wTl 9 (.bool true) rfl (by kernel_rfl) (fun _ _ _ h => h) rfl (fun w' h => by clear h; go_simp) hH ?_
     simp only [wA, wB, wC, wD]
     refine wpAnyH_done (by kernel_rfl) ?_ _
     have HU := hm7 hH
     clear hH
     have HFU := hm7 (HF1.out.below HU.out)
     go_wp2_with (first
      | (at_builtin; refine gapp Tryz.underlying67 Tryz.infoInt7 rfl (by omega) rfl _ _ rfl Y.heap.size (.slice ca rn cc) rn (ibs7 (fxC (L.take j))) rfl (row7_below (show U.ownsRow Y.heap.size 3 1 (.slice ca rn cc) rn (ibs7 (fxC (L.take j))) by have h9 := HFU.out.c; unfold OwI at h9; rw [HRN.out] at h9; exact h9) (below1 _ _)) U.heap.size (.int .i64 (j : Int)) rfl (Bk.new _ _ _) rfl (by have := HLE.out; omega) (by have := HFU.out.b.size; simp; omega) ?_; intro g2 c9 U2 ho hg hv hl2; go_must (have HA2 := hm7 (HFU.out.con HT.out HV.out HI.out (g2 := g2) (c2 := c9) (U2 := U2) (by rw [HRN.out]; exact ho) ((Fr.of (below1 _ _)).tr (Fr.grown hg fun b hb => hb)) (hv.imp id fun e => by rw [e]; simp)); have HZ2 := hm7 (show Y.heap.size <= U2.heap.size by have z1 := (Fr.grown (P := fun _ => True) hg fun _ _ => trivial).size; have z2 := HFU.out.b.size; have z3 := (below1 U (.cells #[.int .i64 (j : Int)] 3)).size; omega)); clear ho hg hv hl2)
      | (at_builtin; refine gapp Tryz.underlying67 Tryz.infoInt7 rfl (by omega) rfl _ _ rfl Y.heap.size (.slice ka kn kc) kn (ibs7 (fxK T (L.take j))) rfl (row7_below (show U2.ownsRow Y.heap.size 3 1 (.slice ka kn kc) kn (ibs7 (fxK T (L.take j))) by have h9 := HA2.out.1; unfold OwI at h9; rw [HKN.out] at h9; exact h9) (below1 _ _)) U2.heap.size (.int .i64 (p : Int)) rfl (Bk.new _ _ _) rfl (by have := HLE.out; omega) (by have := HZ2.out; simp; omega) ?_; intro g3 c8 U3 ho hg hv hl2; have HA3 := hm7 (HA2.out.2 g3 c8 U3 (by rw [HKN.out]; exact ho) ((Fr.of (below1 _ _)).tr (Fr.grown hg fun b hb => hb)) (hv.imp id fun e => by rw [e]; simp)); clear ho hg hv hl2))
     go_roundg gg
     case measure => omega
     case rel => exact ⟨j + 1, by omega, by go_num, by have q := HA3.out; rw [HRN.out, HKN.out] at q; exact q⟩
  | zero =>
   have hlt : ¬ (j : Int) < (n : Int) := by omega
   obtain rfl : j = n := by omega
   clear hw
   go_wp2
   go_ret3
   have et : L.take j = L := List.take_of_length_le (by have := HN.out; omega)
   have q := HF.out.c
   have q' := HF.out.k
   have hka := HF.out.al
   rw [et] at q q' hka
   have hka := fxB_all hka
   exact ⟨_, _, by rw [hka]; rfl, fun _ => ⟨q, q'⟩, HF.out.b⟩
end Go.Proofs.YtechceagghcipabGreatDoor
