import Derived.Test.YtechceagghcipaaGreatDoorEC6
import Derived.Test.YtechceagghcipaaGreatDoorRE1
import Derived.Maps.RangeWalk
namespace Go.Proofs.YtechceagghcipaaGreatDoor
open Go.RowKit Go.Maps
attribute [local go_sem ↓] Go.wp_at_zero Go.wp_at_succ

theorem len7_bd {s : St7} (ho : s.Ok) (parts : Int) : 0 <= len7 s parts /\ len7 s parts <= 10000000000 := by
 rw [rsel_len ho]
 have h1 : (rsel7 s parts).length <= s.rows.length := by
  unfold rsel7
  exact Nat.le_trans (List.length_filter_le _ _) (Nat.le_of_eq (srt7_perm _).length_eq)
 have := ho.c
 omega
def sm8 (f : Pd -> Int) : List Pd -> Int
 | [] => 0
 | p :: l => f p + sm8 f l
theorem sm8_snoc (f : Pd -> Int) (l : List Pd) (p : Pd) : sm8 f (l ++ [p]) = sm8 f l + f p := by
 induction l with
 | nil => simp [sm8]
 | cons q l ih => simp only [List.cons_append, sm8, ih]; omega
theorem sm8_perm (f : Pd -> Int) {l l' : List Pd} (h : l.Perm l') : sm8 f l = sm8 f l' := by
 induction h with
 | nil => rfl
 | cons x _ ih => simp only [sm8, ih]
 | swap x y l => simp only [sm8]; omega
 | trans _ _ ih1 ih2 => rw [ih1, ih2]
theorem sm8_bd (f : Pd -> Int) (l : List Pd) (hf : ∀ p ∈ l, 0 <= f p /\ f p <= 10000000000) : 0 <= sm8 f l /\ sm8 f l <= (l.length : Int) * 10000000000 := by
 induction l with
 | nil => simp [sm8]
 | cons q l ih =>
  have h1 := hf q (by simp)
  have h2 := ih fun p hp => hf p (by simp [hp])
  simp only [sm8, List.length_cons]
  omega
theorem sameP8 {t u : Pd} (ht : KeyP t) (hu : KeyP u) : (kP t).sameKey (kP u) = true ↔ t = u := by
 constructor
 ·intro h
  refine kP_inj ht hu ?_
  simp only [kP, Lit.sameKey, beq_iff_eq] at h ⊢
  rw [h]
 ·rintro rfl; simp [kP, Lit.sameKey]
structure CollQ (K : List Pd) (left : Lit -> Bool) (ss : List Pd) : Prop where
 nd : ss.Nodup
 sub : ∀ t ∈ ss, t ∈ K
 mem : ∀ t ∈ K, (t ∈ ss ↔ left (kP t) = false)
theorem CollQ.step {K ss : List Pd} {left : Lit -> Bool} (h : CollQ K left ss) (hk : ∀ t ∈ K, KeyP t) {x : Pd} (hm : x ∈ K) (hl : left (kP x) = true) : CollQ K (fun z => left z && !z.sameKey (kP x)) (ss ++ [x]) := by
 have hnew : x ∉ ss := fun hx' => by have := (h.mem x hm).1 hx'; rw [hl] at this; cases this
 refine ⟨List.nodup_append.2 ⟨h.nd, by simp, fun a ha b hb => by simp at hb; subst hb; exact fun e => hnew (e ▸ ha)⟩, fun t ht => ?_, fun t ht => ?_⟩
 ·rcases List.mem_append.1 ht with ht | ht
  ·exact h.sub t ht
  ·rw [List.mem_singleton] at ht; subst ht; exact hm
 ·by_cases e : t = x
  ·subst e
   simp [(sameP8 (hk t ht) (hk t ht)).2 rfl]
  ·have : (kP t).sameKey (kP x) = false := by
    cases hs : (kP t).sameKey (kP x) with
    | false => rfl
    | true => exact absurd ((sameP8 (hk t ht) (hk x hm)).1 hs) e
   simp [h.mem t ht, this, e]
theorem CollQ.done {K ss : List Pd} {left : Lit -> Bool} (h : CollQ K left ss) (hn : K.Nodup) (hl : ∀ kl, left kl = false) : ss.Perm K :=
 (List.perm_ext_iff_of_nodup h.nd hn).2 fun t => ⟨h.sub t, fun ht => (h.mem t ht).2 (hl _)⟩
theorem BS.rng {w : World} {g : Nat} {tv : Value} {mn mr : Nat} {ga : Pd -> Nat} {B : Pd -> Nat -> Prop} {m : Nat} {T : List Tm} {K : List Pd} {s : Pd -> St7} {Y : World} (h : BS w g tv mn mr ga B m T K s Y) :
  ∃ D : DataW Value, Y.ownsMap Tryz.prog 60 rawE mr K.length D /\ Maps.size D = K.length /\ CollQ K (has D) [] /\ ∀ (x : Pd) (c : Value) (kl : Lit) (y : DataW Value × List MemPlace), keyOf Tryz.prog 60 x.v = some kl -> rawE c = some y -> (∀ zd, D.atKey kl zd = y.1) -> x ∈ K /\ kl = kP x /\ c = .pointer (some ⟨ga x, 0, none⟩) := by
 obtain ⟨D, h1, h2, h3, h4⟩ := h.r.ex
 refine ⟨D, h1, h3, ⟨List.nodup_nil, (fun t h => by cases h), fun t ht => ⟨(fun h => by cases h), fun hf => ?_⟩⟩, fun x c kl y hkey hv hat => ?_⟩
 ·have := (h4 t (h.kp t ht)).1
  rw [rlF_in ht] at this
  have e : kyP.l t = kP t := rfl
  rw [e, hf] at this
  cases this
 ·obtain ⟨x', ex, rfl, hkx⟩ := keyOf_pd_inv hkey
  obtain rfl : x = x' := by cases x; cases x'; simpa using ex
  have h5 := h4 x hkx
  have e : kyP.l x = kP x := rfl
  rw [e] at h5
  have hh := has_true_of_atKey hat
  rw [h5.1] at hh
  have hx : x ∈ K := Classical.byContradiction fun hn => by rw [rlF_out hn] at hh; cases hh
  refine ⟨hx, rfl, ?_⟩
  have h6 := h5.2 _ (rlF_in hx) (.held c)
  rw [hat] at h6
  cases hv
  injection h6
set_option maxRecDepth 20000 in
set_option maxHeartbeats 2000000 in
theorem blen8_any (w : World) (g : Nat) (tv : Value) (mn mr : Nat) (ga : Pd -> Nat) (B : Pd -> Nat -> Prop) (m : Nat) (T : List Tm) (K : List Pd) (s : Pd -> St7) (parts : Int) (Y : World) (h : BS w g tv mn mr ga B m T K s Y) (hkl : K.length <= 100000000) :
  Calls Tryz.prog 75 #[.pointer (some ⟨g, 0, none⟩), .int .i64 parts] Y fun e Y' => e = .returned (.int .i64 (sm8 (fun p => len7 (s p) parts) K)) /\ Below Y.heap.size Y Y' := by
 obtain ⟨D, hD, hsz, hc0, hin⟩ := h.rng
 have HS := hm7 h
 have HM := hm7 hD
 have HC0 := hm7 hc0
 have HIN := hm7 hin
 have c2 := h.t.b.cell (i := 2) rfl
 have gl := h.t.b.lt
 have hml := h.r.lt
 have HLN : Hid (∀ (p : Pd) (X : World), p ∈ K -> Below Y.heap.size Y X -> Calls Tryz.prog 112 #[.pointer (some ⟨ga p, 0, none⟩), .int .i64 parts] X fun e w' => e = .returned (.int .i64 (len7 (s p) parts)) /\ Below X.heap.size X w') := fun p X hp hX => ((h.pt p hp).below hX).kr.len parts
 have HBD := hm7 (fun p (hp : p ∈ K) => len7_bd (h.pt p hp).ok parts)
 obtain ⟨f, hf⟩ : ∃ f : Pd -> Int, (fun p => len7 (s p) parts) = f := ⟨_, rfl⟩
 have hf' : ∀ p, len7 (s p) parts = f p := fun p => by rw [<- hf]
 simp only [hf'] at HLN HBD
 rw [hf]
 clear h hD hc0 hin hf hf'
 go_enter Tryz.func75, Tryz.ntmps75
 go_wp2_with (at_range; refine wpList_range_own _ rfl _ 80 rfl 60 73 Tryz.lawPred Tryz.underlying80 _ mr K.length _ rfl HM.out ?_; intro w0 hrg0 hg0 hs0)
 go_frame
 go_loopw [5] (fun v wr => ∃ (left : Lit -> Bool) (cnt : Nat) (ss : List Pd), wr.ranges Tryz.prog 60 rawE mr Y.heap.size K.length D left cnt /\ ss.length + cnt <= Maps.size D /\ v = .int .i64 (sm8 f ss) /\ CollQ K left ss /\ Below Y.heap.size Y wr)
  (fun _ wr => wr.rangeLeft mr Y.heap.size)
 case atStart => exact ⟨_, _, [], hrg0, by simp, rfl, HC0.out, (Below.refl _ _).grown hg0 (Nat.le_refl _) (fun j hj => by cases hj)⟩
 case round =>
  obtain ⟨left, cnt, ss, hrg, hcs, rfl, hC, hb⟩ := hrel
  have HRG := hm7 hrg
  have HC := hm7 hC
  have HB := hm7 hb
  have hbd := sm8_bd f ss fun p hp => HBD.out p (hC.sub p hp)
  clear hrg hC hb
  go_wp2_with (at_next; refine wpList_next_ranges _ rfl _ rfl 60 Tryz.lawPred rawE (fun t : Pd => t.v) (fun c : Value => c) (fun key kl hk => by obtain ⟨x, hx, _⟩ := keyOf_pd_inv hk; exact ⟨x, hx⟩) (fun v y hv => ⟨v, rfl⟩) mr Y.heap.size K.length _ _ _ rfl HRG.out ?_ ?_)
  ·intro hc0 hl0
   have HL0 := hm7 hl0
   clear hc0 hl0
   go_wp2
   go_ret
   exact ⟨by rw [<- sm8_perm f (HC.out.done HS.out.nd HL0.out)]; rfl, HB.out⟩
  ·intro x c kl y ps w1 cnt1 hkey hlk hv hat hrg1 hlt hg1 hs1 hen
   obtain ⟨hx, rfl, rfl⟩ := HIN.out x c kl (y, ps) hkey hv hat
   have HX := hm7 hx
   have HC1 := hm7 (HC.out.step HS.out.kp hx hlk)
   have HR1 := hm7 hrg1
   have HB1 : Hid (Below Y.heap.size Y w1) := HB.out.grown hg1 HB.out.size (fun j hj => by cases hj; exact Nat.le_refl _)
   have HLT := hm7 hlt
   have hfx := HBD.out x hx
   have hb1 : (ss.length : Int) <= 100000000 := by omega
   have s0 : 0 <= sm8 f ss := hbd.1
   have s1 : sm8 f ss <= 1000000000000000000 := by omega
   have t0 := hfx.1
   have t1 := hfx.2
   obtain ⟨S, hS⟩ : ∃ S, sm8 f ss = S := ⟨_, rfl⟩
   obtain ⟨F, hF⟩ : ∃ F, f x = F := ⟨_, rfl⟩
   have HCA := hm7 (fun X hX => HLN.out x X hx hX)
   rw [hS] at s0 s1 ⊢
   rw [hF] at t0 t1 HCA
   have HSS := hm7 (show sm8 f (ss ++ [x]) = S + F by rw [sm8_snoc, hS, hF])
   obtain ⟨gx, hgx⟩ : ∃ gx, ga x = gx := ⟨_, rfl⟩
   rw [hgx] at HCA hen ⊢
   clear hx hat hlk hkey hrg1 hg1 hs1 hv HC hlt hfx hS hF hbd hb1 HLN hgx
   obtain ⟨xn, xa⟩ := x
   try simp only at hen
   go_wp2_with (go_at_call 112; refine (HCA.out _ HB1.out).mono ?_; clear HCA; rintro e w2 ⟨rfl, hb⟩; have HB2 := hm7 (below_step HB1.out hb); have HR2 := hm7 (HR1.out.kept (below_grown hb) (by simp) (by simp)); clear hb)
   go_roundw
   case rel => exact ⟨_, cnt1, _, HR2.out, by have := HLT.out; simp only [List.length_append, List.length_singleton]; omega, by rw [HSS.out], HC1.out, HB2.out⟩
   case measure => rw [HR2.out.left_eq, HRG.out.left_eq]; exact HLT.out
end Go.Proofs.YtechceagghcipaaGreatDoor
