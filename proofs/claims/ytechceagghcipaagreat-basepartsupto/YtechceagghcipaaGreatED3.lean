import Derived.Test.YtechceagghcipaaGreatEB8
import Derived.Test.YtechceagghcipaaGreatEC6
import Derived.Maps.RangeWalk
/-
  law 7: what both relations answer is the same (plain); roomy.
-/
namespace Go.Proofs.YtechceagghcipaaGreat
open Go.RowKit
attribute [local go_sem ↓] Go.wp_at_zero Go.wp_at_succ

theorem rows_three {s : St7} (ho : s.Ok) : s.rows = s.rows.take s.nf ++ ((s.rows.take s.xf).drop s.nf ++ s.rows.drop s.xf) := by
  have h1 := ho.a
  have e : (s.rows.take s.xf).take s.nf = s.rows.take s.nf := by rw [List.take_take, Nat.min_eq_left h1]
  rw [← List.append_assoc, ← e, List.take_append_drop, List.take_append_drop]
theorem filter_const {α : Type} (f : α → Bool) {L : List α} {b : Bool} (h : ∀ x ∈ L, f x = b) : L.filter f = if b then L else [] := by
  cases b with
  | true => rw [List.filter_eq_self.2 h]; rfl
  | false => rw [List.filter_eq_nil_iff.2 fun x hx => by rw [h x hx]; simp]; rfl
theorem filt_three {s : St7} (ho : s.Ok) (parts : Int) : s.rows.filter (fun r => hp7 parts (part7 s r)) = (if hp7 parts 1 then s.rows.take s.nf else []) ++ ((if hp7 parts 2 then (s.rows.take s.xf).drop s.nf else []) ++ if hp7 parts 4 then s.rows.drop s.xf else []) := by
  have ha := ho.a
  have hb := ho.b
  have f1 : (s.rows.take s.nf).filter (fun r => hp7 parts (part7 s r)) = if hp7 parts 1 then s.rows.take s.nf else [] := filter_const _ fun x hx => by
    obtain ⟨i, hi⟩ := List.getElem?_of_mem hx
    rw [List.getElem?_take] at hi
    split at hi
    · rename_i h1
      rw [part7_at ho hi, if_pos h1]
    · cases hi
  have f2 : ((s.rows.take s.xf).drop s.nf).filter (fun r => hp7 parts (part7 s r)) = if hp7 parts 2 then (s.rows.take s.xf).drop s.nf else [] := filter_const _ fun x hx => by
    obtain ⟨i, hi⟩ := List.getElem?_of_mem hx
    rw [List.getElem?_drop, List.getElem?_take] at hi
    split at hi
    · rename_i h1
      rw [part7_at ho hi, if_neg (by omega), if_pos h1]
    · cases hi
  have f3 : (s.rows.drop s.xf).filter (fun r => hp7 parts (part7 s r)) = if hp7 parts 4 then s.rows.drop s.xf else [] := filter_const _ fun x hx => by
    obtain ⟨i, hi⟩ := List.getElem?_of_mem hx
    rw [List.getElem?_drop] at hi
    rw [part7_at ho hi, if_neg (by omega), if_neg (by omega)]
  have e : s.rows.filter (fun r => hp7 parts (part7 s r)) = (s.rows.take s.nf ++ ((s.rows.take s.xf).drop s.nf ++ s.rows.drop s.xf)).filter (fun r => hp7 parts (part7 s r)) := by rw [← rows_three ho]
  rw [e, List.filter_append, List.filter_append, f1, f2, f3]
theorem sel_filter {s : St7} (ho : s.Ok) (parts : Int) : sel7 s parts [] [] = s.rows.filter fun r => hp7 parts (part7 s r) := by
  have r1 : rws7 s.rows (wn7 0 (s.nf : Int) (nat7 (List.range s.rows.length))) = s.rows.take s.nf := by
    have := rws_range s.rows 0 s.nf (by omega) (Nat.le_trans ho.a ho.b)
    simpa using this
  have r2 := rws_range s.rows s.nf s.xf ho.a ho.b
  have r3 : rws7 s.rows (wn7 (s.xf : Int) (s.rows.length : Int) (nat7 (List.range s.rows.length))) = s.rows.drop s.xf := by
    have := rws_range s.rows s.xf s.rows.length ho.b (Nat.le_refl _)
    simpa using this
  rw [filt_three ho, sel7, pls7_all, sts7]
  cases hp7 parts 1 <;> cases hp7 parts 2 <;> cases hp7 parts 4 <;> simp [r1, r2, r3]
theorem rsel_eq {s : St7} (ho : s.Ok) (parts : Int) : srt7 (sel7 s parts [] []) = rsel7 s parts := by rw [sel_filter ho, srt7_filter]; rfl
theorem rsel_len {s : St7} (ho : s.Ok) (parts : Int) : len7 s parts = ((rsel7 s parts).length : Int) := by
  have ha := ho.a
  have hb := ho.b
  rw [← rsel_eq ho, (srt7_perm _).length_eq, sel_filter ho, filt_three ho, len7, sts7]
  cases hp7 parts 1 <;> cases hp7 parts 2 <;> cases hp7 parts 4 <;> simp [sum7] <;> omega
end Go.Proofs.YtechceagghcipaaGreat
/-
  base: Len: a range over the map of relations.
-/
namespace Go.Proofs.YtechceagghcipaaGreat
open Go.RowKit Go.Maps
attribute [local go_sem ↓] Go.wp_at_zero Go.wp_at_succ

theorem len7_bd {s : St7} (ho : s.Ok) (parts : Int) : 0 ≤ len7 s parts ∧ len7 s parts ≤ 10000000000 := by
  rw [rsel_len ho]
  have h1 : (rsel7 s parts).length ≤ s.rows.length := by
    unfold rsel7
    exact Nat.le_trans (List.length_filter_le _ _) (Nat.le_of_eq (srt7_perm _).length_eq)
  have := ho.c
  omega
/-- A sum over predicates. -/
def sm8 (f : Pd → Int) : List Pd → Int
  | [] => 0
  | p :: l => f p + sm8 f l
theorem sm8_snoc (f : Pd → Int) (l : List Pd) (p : Pd) : sm8 f (l ++ [p]) = sm8 f l + f p := by
  induction l with
  | nil => simp [sm8]
  | cons q l ih => simp only [List.cons_append, sm8, ih]; omega
theorem sm8_perm (f : Pd → Int) {l l' : List Pd} (h : l.Perm l') : sm8 f l = sm8 f l' := by
  induction h with
  | nil => rfl
  | cons x _ ih => simp only [sm8, ih]
  | swap x y l => simp only [sm8]; omega
  | trans _ _ ih1 ih2 => rw [ih1, ih2]
theorem sm8_bd (f : Pd → Int) (l : List Pd) (hf : ∀ p ∈ l, 0 ≤ f p ∧ f p ≤ 10000000000) : 0 ≤ sm8 f l ∧ sm8 f l ≤ (l.length : Int) * 10000000000 := by
  induction l with
  | nil => simp [sm8]
  | cons q l ih =>
    have h1 := hf q (by simp)
    have h2 := ih fun p hp => hf p (by simp [hp])
    simp only [sm8, List.length_cons]
    omega
theorem sameP8 {t u : Pd} (ht : KeyP t) (hu : KeyP u) : (kP t).sameKey (kP u) = true ↔ t = u := by
  constructor
  · intro h
    refine kP_inj ht hu ?_
    simp only [kP, Lit.sameKey, beq_iff_eq] at h ⊢
    rw [h]
  · rintro rfl; simp [kP, Lit.sameKey]
/-- Which of the predicates have come. -/
structure CollQ (K : List Pd) (left : Lit → Bool) (ss : List Pd) : Prop where
  nd : ss.Nodup
  sub : ∀ t ∈ ss, t ∈ K
  mem : ∀ t ∈ K, (t ∈ ss ↔ left (kP t) = false)
theorem CollQ.step {K ss : List Pd} {left : Lit → Bool} (h : CollQ K left ss) (hk : ∀ t ∈ K, KeyP t) {x : Pd} (hm : x ∈ K) (hl : left (kP x) = true) : CollQ K (fun z => left z && !z.sameKey (kP x)) (ss ++ [x]) := by
  have hnew : x ∉ ss := fun hx' => by have := (h.mem x hm).1 hx'; rw [hl] at this; cases this
  refine ⟨List.nodup_append.2 ⟨h.nd, by simp, fun a ha b hb => by simp at hb; subst hb; exact fun e => hnew (e ▸ ha)⟩, fun t ht => ?_, fun t ht => ?_⟩
  · rcases List.mem_append.1 ht with ht | ht
    · exact h.sub t ht
    · rw [List.mem_singleton] at ht; subst ht; exact hm
  · by_cases e : t = x
    · subst e
      simp [(sameP8 (hk t ht) (hk t ht)).2 rfl]
    · have : (kP t).sameKey (kP x) = false := by
        cases hs : (kP t).sameKey (kP x) with
        | false => rfl
        | true => exact absurd ((sameP8 (hk t ht) (hk x hm)).1 hs) e
      simp [h.mem t ht, this, e]
theorem CollQ.done {K ss : List Pd} {left : Lit → Bool} (h : CollQ K left ss) (hn : K.Nodup) (hl : ∀ kl, left kl = false) : ss.Perm K :=
  (List.perm_ext_iff_of_nodup h.nd hn).2 fun t => ⟨h.sub t, fun ht => (h.mem t ht).2 (hl _)⟩
/-- The map of relations, as a range takes it. -/
theorem BS.rng {w : World} {g : Nat} {tv : Value} {mn mr : Nat} {ga : Pd → Nat} {B : Pd → Nat → Prop} {m : Nat} {T : List Tm} {K : List Pd} {s : Pd → St7} {Y : World} (h : BS w g tv mn mr ga B m T K s Y) :
    ∃ D : DataW Value, Y.ownsMap Tryz.prog 43 rawE mr K.length D ∧ Maps.size D = K.length ∧ CollQ K (has D) [] ∧ ∀ (x : Pd) (c : Value) (kl : Lit) (y : DataW Value × List MemPlace), keyOf Tryz.prog 43 x.v = some kl → rawE c = some y → (∀ zd, D.atKey kl zd = y.1) → x ∈ K ∧ kl = kP x ∧ c = .pointer (some ⟨ga x, 0, none⟩) := by
  obtain ⟨D, h1, h2, h3, h4⟩ := h.r.ex
  refine ⟨D, h1, h3, ⟨List.nodup_nil, (fun t h => by cases h), fun t ht => ⟨(fun h => by cases h), fun hf => ?_⟩⟩, fun x c kl y hkey hv hat => ?_⟩
  · have := (h4 t (h.kp t ht)).1
    rw [rlF_in ht] at this
    have e : kyP.l t = kP t := rfl
    rw [e, hf] at this
    cases this
  · obtain ⟨x', ex, rfl, hkx⟩ := keyOf_pd_inv hkey
    obtain rfl : x = x' := by cases x; cases x'; simpa using ex
    have h5 := h4 x hkx
    have e : kyP.l x = kP x := rfl
    rw [e] at h5
    have hh := has_true_of_atKey hat
    rw [h5.1] at hh
    have hx : x ∈ K := Classical.byContradiction fun hn => by rw [rlF_out hn] at hh; cases hh
    refine ⟨hx, rfl, ?_⟩
    have h6 := h5.2 _ (rlF_in hx) (.held c)
    rw [hat] at h6
    cases hv
    injection h6
set_option maxRecDepth 20000 in
set_option maxHeartbeats 2000000 in
theorem blen8_any (w : World) (g : Nat) (tv : Value) (mn mr : Nat) (ga : Pd → Nat) (B : Pd → Nat → Prop) (m : Nat) (T : List Tm) (K : List Pd) (s : Pd → St7) (parts : Int) (Y : World) (h : BS w g tv mn mr ga B m T K s Y) (hkl : K.length ≤ 100000000) :
    Calls Tryz.prog 9 #[.pointer (some ⟨g, 0, none⟩), .int .i64 parts] Y fun e Y' => e = .returned (.int .i64 (sm8 (fun p => len7 (s p) parts) K)) ∧ Below Y.heap.size Y Y' := by
  obtain ⟨D, hD, hsz, hc0, hin⟩ := h.rng
  have HS := hm7 h
  have HM := hm7 hD
  have HC0 := hm7 hc0
  have HIN := hm7 hin
  have c2 := h.t.b.cell (i := 2) rfl
  have gl := h.t.b.lt
  have hml := h.r.lt
  have HLN : Hid (∀ (p : Pd) (X : World), p ∈ K → Below Y.heap.size Y X → Calls Tryz.prog 29 #[.pointer (some ⟨ga p, 0, none⟩), .int .i64 parts] X fun e w' => e = .returned (.int .i64 (len7 (s p) parts)) ∧ Below X.heap.size X w') := fun p X hp hX => ((h.pt p hp).below hX).kr.len parts
  have HBD := hm7 (fun p (hp : p ∈ K) => len7_bd (h.pt p hp).ok parts)
  obtain ⟨f, hf⟩ : ∃ f : Pd → Int, (fun p => len7 (s p) parts) = f := ⟨_, rfl⟩
  have hf' : ∀ p, len7 (s p) parts = f p := fun p => by rw [← hf]
  simp only [hf'] at HLN HBD
  rw [hf]
  clear h hD hc0 hin hf hf'
  go_enter Tryz.func9, Tryz.ntmps9
  go_wp2_with (at_range; refine wpList_range_own _ rfl _ 71 rfl 43 77 Tryz.lawPred Tryz.underlying71 _ mr K.length _ rfl HM.out ?_; intro w0 hrg0 hg0 hs0)
  go_frame
  go_loopw [5] (fun v wr => ∃ (left : Lit → Bool) (cnt : Nat) (ss : List Pd), wr.ranges Tryz.prog 43 rawE mr Y.heap.size K.length D left cnt ∧ ss.length + cnt ≤ Maps.size D ∧ v = .int .i64 (sm8 f ss) ∧ CollQ K left ss ∧ Below Y.heap.size Y wr)
    (fun _ wr => wr.rangeLeft mr Y.heap.size)
  case atStart => exact ⟨_, _, [], hrg0, by simp, rfl, HC0.out, (Below.refl _ _).grown hg0 (Nat.le_refl _) (fun j hj => by cases hj)⟩
  case round =>
    obtain ⟨left, cnt, ss, hrg, hcs, rfl, hC, hb⟩ := hrel
    have HRG := hm7 hrg
    have HC := hm7 hC
    have HB := hm7 hb
    have hbd := sm8_bd f ss fun p hp => HBD.out p (hC.sub p hp)
    clear hrg hC hb
    go_wp2_with (at_next; refine wpList_next_ranges _ rfl _ rfl 43 Tryz.lawPred rawE (fun t : Pd => t.v) (fun c : Value => c) (fun key kl hk => by obtain ⟨x, hx, _⟩ := keyOf_pd_inv hk; exact ⟨x, hx⟩) (fun v y hv => ⟨v, rfl⟩) mr Y.heap.size K.length _ _ _ rfl HRG.out ?_ ?_)
    · intro hc0 hl0
      have HL0 := hm7 hl0
      clear hc0 hl0
      go_wp2
      go_ret
      exact ⟨by rw [← sm8_perm f (HC.out.done HS.out.nd HL0.out)]; rfl, HB.out⟩
    · intro x c kl y ps w1 cnt1 hkey hlk hv hat hrg1 hlt hg1 hs1 hen
      obtain ⟨hx, rfl, rfl⟩ := HIN.out x c kl (y, ps) hkey hv hat
      have HX := hm7 hx
      have HC1 := hm7 (HC.out.step HS.out.kp hx hlk)
      have HR1 := hm7 hrg1
      have HB1 : Hid (Below Y.heap.size Y w1) := HB.out.grown hg1 HB.out.size (fun j hj => by cases hj; exact Nat.le_refl _)
      have HLT := hm7 hlt
      have hfx := HBD.out x hx
      have hb1 : (ss.length : Int) ≤ 100000000 := by omega
      have s0 : 0 ≤ sm8 f ss := hbd.1
      have s1 : sm8 f ss ≤ 1000000000000000000 := by omega
      have t0 := hfx.1
      have t1 := hfx.2
      obtain ⟨S, hS⟩ : ∃ S, sm8 f ss = S := ⟨_, rfl⟩
      obtain ⟨F, hF⟩ : ∃ F, f x = F := ⟨_, rfl⟩
      have HCA := hm7 (fun X hX => HLN.out x X hx hX)
      rw [hS] at s0 s1 ⊢
      rw [hF] at t0 t1 HCA
      have HSS := hm7 (show sm8 f (ss ++ [x]) = S + F by rw [sm8_snoc, hS, hF])
      obtain ⟨gx, hgx⟩ : ∃ gx, ga x = gx := ⟨_, rfl⟩
      rw [hgx] at HCA hen ⊢
      clear hx hat hlk hkey hrg1 hg1 hs1 hv HC hlt hfx hS hF hbd hb1 HLN hgx
      obtain ⟨xn, xa⟩ := x
      try simp only at hen
      go_wp2_with (go_at_call 29; refine (HCA.out _ HB1.out).mono ?_; clear HCA; rintro e w2 ⟨rfl, hb⟩; have HB2 := hm7 (below_step HB1.out hb); have HR2 := hm7 (HR1.out.kept (below_grown hb) (by simp) (by simp)); clear hb)
      go_roundw
      case rel => exact ⟨_, cnt1, _, HR2.out, by have := HLT.out; simp only [List.length_append, List.length_singleton]; omega, by rw [HSS.out], HC1.out, HB2.out⟩
      case measure => rw [HR2.out.left_eq, HRG.out.left_eq]; exact HLT.out
end Go.Proofs.YtechceagghcipaaGreat
/-
  base: Turn.
-/
namespace Go.Proofs.YtechceagghcipaaGreat
open Go.RowKit Go.Maps
attribute [local go_sem ↓] Go.wp_at_zero Go.wp_at_succ

open Classical in
/-- The relations of ss turned. -/
noncomputable def tn8 (ss : List Pd) (s : Pd → St7) : Pd → St7 := fun q => if q ∈ ss then Turn7 (s q) else s q
theorem tn8_nil (s : Pd → St7) : tn8 [] s = s := funext fun q => if_neg (by simp)
theorem tn8_snoc {ss : List Pd} {x : Pd} (s : Pd → St7) : up8 (tn8 ss s) x (Turn7 (s x)) = tn8 (ss ++ [x]) s := by
  funext q
  by_cases e : q = x
  · subst e
    rw [up8_same]
    exact (if_pos (by simp)).symm
  · rw [up8_other _ _ e]
    unfold tn8
    by_cases h : q ∈ ss
    · rw [if_pos h, if_pos (by simp [h])]
    · rw [if_neg h, if_neg (by simp [h, e])]
theorem tn8_perm {ss K : List Pd} (s : Pd → St7) (h : ss.Perm K) : tn8 ss s = tn8 K s := by
  funext q
  unfold tn8
  by_cases hq : q ∈ ss
  · rw [if_pos hq, if_pos (h.mem_iff.1 hq)]
  · rw [if_neg hq, if_neg (fun hk => hq (h.mem_iff.2 hk))]
theorem ranges_same8 {w w' : World} {P : Program} {k : TypeId} {R : Value → Option (DataW Value × List MemPlace)} {b r n : Nat} {D : DataW Value} {left : Lit → Bool} {cnt : Nat} (h : w.ranges P k R b r n D left cnt) (hb : w'.heap[b]? = w.heap[b]?) (hr : w'.heap[r]? = w.heap[r]?) : w'.ranges P k R b r n D left cnt := by
  obtain ⟨es, clock, since, seen, c0, h1, h2, h3, h4, h5, h6⟩ := h
  exact ⟨es, clock, since, seen, c0, hb.trans h1, h2, h3, h4, hr.trans h5, h6⟩
/-- How far Turn has come: the base, its blocks, what was written. -/
structure TU8 (w : World) (g : Nat) (tv : Value) (mn mr : Nat) (ga : Pd → Nat) (B : Pd → Nat → Prop) (m : Nat) (T : List Tm) (K : List Pd) (s : Pd → St7) (Y : World) (ss : List Pd) (wr : World) : Prop where
  ex : ∃ B', BS w g tv mn mr ga B' m T K (tn8 ss s) wr ∧ ∀ b, PA8 g tv mn mr B' K b → PA8 g tv mn mr B K b ∨ Y.heap.size < b
  fr : Fr (fun b => PA8 g tv mn mr B K b) Y wr
  sz : Y.heap.size < wr.heap.size
section
variable {w : World} {g : Nat} {tv : Value} {mn mr : Nat} {ga : Pd → Nat} {B : Pd → Nat → Prop} {m : Nat} {T : List Tm} {K : List Pd} {s : Pd → St7} {Y : World} {ss : List Pd} {wr w1 : World}
theorem TU8.it (h : TU8 w g tv mn mr ga B m T K s Y ss wr) (hY : BS w g tv mn mr ga B m T K s Y) (hg : wr.grownBy w1 (some Y.heap.size)) : TU8 w g tv mn mr ga B m T K s Y ss w1 := by
  obtain ⟨B', h1, h2⟩ := h.ex
  have hf : Fr (fun b => b = Y.heap.size) wr w1 := Fr.grown hg fun b e => by cases e; rfl
  refine ⟨⟨B', h1.fr hf (fun b e _ hq => ?_) (fun b e _ => by subst e; exact hY.bl.size), h2⟩, h.fr.trans hf fun b hl e => by omega, Nat.lt_of_lt_of_le h.sz hf.size⟩
  subst e
  rcases h2 _ hq with q | q
  · have := (hY.lt q).2; omega
  · omega
theorem TU8.turn (h : TU8 w g tv mn mr ga B m T K s Y ss wr) (hY : BS w g tv mn mr ga B m T K s Y) {x : Pd} (hx : x ∈ K) (hn : x ∉ ss) :
    Calls Tryz.prog 53 #[.pointer (some ⟨ga x, 0, none⟩)] wr fun e w2 => e = .returned (.int .i64 (((s x).rows.length : Int) - ((s x).xf : Int))) ∧ TU8 w g tv mn mr ga B m T K s Y (ss ++ [x]) w2 ∧ w2.heap[mr]? = wr.heap[mr]? ∧ w2.heap[Y.heap.size]? = wr.heap[Y.heap.size]? := by
  obtain ⟨B', h1, h2⟩ := h.ex
  have hs := h.sz
  have e : tn8 ss s x = s x := if_neg hn
  have hp := h1.pt x hx
  rw [e] at hp
  refine hp.turn.mono ?_
  rintro e' w2 ⟨rfl, hpx⟩
  obtain ⟨N, hbs, hf, hN⟩ := h1.one hx hpx
  rw [tn8_snoc] at hbs
  have hz := hf.size
  refine ⟨rfl, ⟨⟨_, hbs, fun b hb => ?_⟩, h.fr.trans hf fun b hl hq => ?_, by omega⟩, hf.block mr h1.r.lt fun hq => (h1.ap x hx _ hq).2 rfl, hf.block _ hs fun hq => ?_⟩
  · rcases PA8.up8 hb with q | q
    · exact h2 b q
    · rcases hN b q with q | q
      · exact h2 b (Or.inr (Or.inr ⟨x, hx, q⟩))
      · exact Or.inr (by omega)
  · rcases h2 b (Or.inr (Or.inr ⟨x, hx, hq⟩)) with q | q
    · exact q
    · omega
  · rcases h2 _ (Or.inr (Or.inr ⟨x, hx, hq⟩)) with q | q
    · have := (hY.lt q).2; omega
    · omega
end
set_option maxRecDepth 20000 in
set_option maxHeartbeats 2000000 in
theorem bturn8_any (w : World) (g : Nat) (tv : Value) (mn mr : Nat) (ga : Pd → Nat) (B : Pd → Nat → Prop) (m : Nat) (T : List Tm) (K : List Pd) (s : Pd → St7) (Y : World) (h : BS w g tv mn mr ga B m T K s Y) (hkl : K.length ≤ 100000000) :
    Calls Tryz.prog 19 #[.pointer (some ⟨g, 0, none⟩)] Y fun e Y' => e = .returned (.int .i64 (sm8 (fun p => ((s p).rows.length : Int) - ((s p).xf : Int)) K)) ∧ BX8 w g mn mr m T K (tn8 K s) (PA8 g tv mn mr B K) Y Y' := by
  obtain ⟨D, hD, hsz, hc0, hin⟩ := h.rng
  have HS := hm7 h
  have HM := hm7 hD
  have HC0 := hm7 hc0
  have HIN := hm7 hin
  have c2 := h.t.b.cell (i := 2) rfl
  have gl := h.t.b.lt
  have hml := h.r.lt
  have HBD : Hid (∀ p ∈ K, 0 ≤ ((s p).rows.length : Int) - ((s p).xf : Int) ∧ ((s p).rows.length : Int) - ((s p).xf : Int) ≤ 10000000000) := fun p hp => by
    have ho := (h.pt p hp).ok
    have := ho.b
    have := ho.c
    omega
  have HTN : Hid (∀ (ss : List Pd) (x : Pd) (wr : World), TU8 w g tv mn mr ga B m T K s Y ss wr → x ∈ K → x ∉ ss → Calls Tryz.prog 53 #[.pointer (some ⟨ga x, 0, none⟩)] wr fun e w2 => e = .returned (.int .i64 (((s x).rows.length : Int) - ((s x).xf : Int))) ∧ TU8 w g tv mn mr ga B m T K s Y (ss ++ [x]) w2 ∧ w2.heap[mr]? = wr.heap[mr]? ∧ w2.heap[Y.heap.size]? = wr.heap[Y.heap.size]?) := fun ss x wr ht hx hn => ht.turn h hx hn
  have HT0 : Hid (∀ w0 : World, Y.grownBy w0 none → w0.heap.size = Y.heap.size + 1 → TU8 w g tv mn mr ga B m T K s Y [] w0) := fun w0 hg hz => by
    have hf : Fr (fun b => PA8 g tv mn mr B K b) Y w0 := Fr.grown hg fun b e => by cases e
    have hf0 : Fr (fun _ => False) Y w0 := Fr.grown hg fun b e => by cases e
    exact ⟨⟨B, by rw [tn8_nil]; exact h.fr hf0 (fun _ h => h.elim) fun _ h => h.elim, fun b hb => Or.inl hb⟩, hf, by omega⟩
  obtain ⟨f, hf⟩ : ∃ f : Pd → Int, (fun p => ((s p).rows.length : Int) - ((s p).xf : Int)) = f := ⟨_, rfl⟩
  have hf' : ∀ p, ((s p).rows.length : Int) - ((s p).xf : Int) = f p := fun p => by rw [← hf]
  simp only [hf'] at HTN HBD
  rw [hf]
  clear h hD hc0 hin hf hf'
  go_enter Tryz.func19, Tryz.ntmps19
  go_wp2_with (at_range; refine wpList_range_own _ rfl _ 71 rfl 43 77 Tryz.lawPred Tryz.underlying71 _ mr K.length _ rfl HM.out ?_; intro w0 hrg0 hg0 hs0)
  go_frame
  go_loopw [3] (fun v wr => ∃ (left : Lit → Bool) (cnt : Nat) (ss : List Pd), wr.ranges Tryz.prog 43 rawE mr Y.heap.size K.length D left cnt ∧ ss.length + cnt ≤ Maps.size D ∧ v = .int .i64 (sm8 f ss) ∧ CollQ K left ss ∧ TU8 w g tv mn mr ga B m T K s Y ss wr)
    (fun _ wr => wr.rangeLeft mr Y.heap.size)
  case atStart => exact ⟨_, _, [], hrg0, by simp, rfl, HC0.out, HT0.out _ hg0 hs0⟩
  case round =>
    obtain ⟨left, cnt, ss, hrg, hcs, rfl, hC, hb⟩ := hrel
    have HRG := hm7 hrg
    have HC := hm7 hC
    have HB := hm7 hb
    have hbd := sm8_bd f ss fun p hp => HBD.out p (hC.sub p hp)
    clear hrg hC hb
    go_wp2_with (at_next; refine wpList_next_ranges _ rfl _ rfl 43 Tryz.lawPred rawE (fun t : Pd => t.v) (fun c : Value => c) (fun key kl hk => by obtain ⟨x, hx, _⟩ := keyOf_pd_inv hk; exact ⟨x, hx⟩) (fun v y hv => ⟨v, rfl⟩) mr Y.heap.size K.length _ _ _ rfl HRG.out ?_ ?_)
    · intro hc0 hl0
      have HL0 := hm7 hl0
      clear hc0 hl0
      go_wp2
      go_ret
      have hpm := HC.out.done HS.out.nd HL0.out
      obtain ⟨B', h1, h2⟩ := HB.out.ex
      rw [tn8_perm s hpm] at h1
      exact ⟨by rw [← sm8_perm f hpm]; rfl, tv, ga, B', h1, HB.out.fr, fun b hb => (h2 b hb).imp id Nat.le_of_lt⟩
    · intro x c kl y ps w1 cnt1 hkey hlk hv hat hrg1 hlt hg1 hs1 hen
      obtain ⟨hx, rfl, rfl⟩ := HIN.out x c kl (y, ps) hkey hv hat
      have hnx : x ∉ ss := fun hq => by have := (HC.out.mem x hx).1 hq; rw [hlk] at this; cases this
      have HC1 := hm7 (HC.out.step HS.out.kp hx hlk)
      have HR1 := hm7 hrg1
      have HB1 := hm7 (HB.out.it HS.out hg1)
      have HLT := hm7 hlt
      have hfx := HBD.out x hx
      have hb1 : (ss.length : Int) ≤ 100000000 := by omega
      have s0 : 0 ≤ sm8 f ss := hbd.1
      have s1 : sm8 f ss ≤ 1000000000000000000 := by omega
      have t0 := hfx.1
      have t1 := hfx.2
      obtain ⟨S, hS⟩ : ∃ S, sm8 f ss = S := ⟨_, rfl⟩
      obtain ⟨F, hF⟩ : ∃ F, f x = F := ⟨_, rfl⟩
      have HCA := hm7 (HTN.out ss x w1 HB1.out hx hnx)
      rw [hS] at s0 s1 ⊢
      rw [hF] at t0 t1 HCA
      have HSS := hm7 (show sm8 f (ss ++ [x]) = S + F by rw [sm8_snoc, hS, hF])
      obtain ⟨gx, hgx⟩ : ∃ gx, ga x = gx := ⟨_, rfl⟩
      rw [hgx] at HCA hen ⊢
      clear hx hat hlk hkey hrg1 hg1 hs1 hv HC hlt hfx hS hF hbd hb1 HTN hgx hnx
      obtain ⟨xn, xa⟩ := x
      try simp only at hen
      go_wp2_with (go_at_call 53; refine HCA.out.mono ?_; clear HCA; rintro e w2 ⟨rfl, ht, e1, e2⟩; have HB2 := hm7 ht; have HR2 := hm7 (ranges_same8 HR1.out e1 e2); clear ht e1 e2)
      go_roundw
      case rel => exact ⟨_, cnt1, _, HR2.out, by have := HLT.out; simp only [List.length_append, List.length_singleton]; omega, by rw [HSS.out], HC1.out, HB2.out⟩
      case measure => rw [HR2.out.left_eq, HRG.out.left_eq]; exact HLT.out
end Go.Proofs.YtechceagghcipaaGreat
/-
  base: Find (the iterator itself comes later).
-/
namespace Go.Proofs.YtechceagghcipaaGreat
open Go.RowKit
attribute [local go_sem ↓] Go.wp_at_zero Go.wp_at_succ

theorem three9 (w : World) (c0 c1 c2 : Array Value) (t0 t1 t2 : TypeId) : Bk (((w.alloc (.cells c0 t0)).alloc (.cells c1 t1)).alloc (.cells c2 t2)) w.heap.size c0 t0 ∧ Bk (((w.alloc (.cells c0 t0)).alloc (.cells c1 t1)).alloc (.cells c2 t2)) (w.heap.size + 1) c1 t1 ∧ Bk (((w.alloc (.cells c0 t0)).alloc (.cells c1 t1)).alloc (.cells c2 t2)) (w.heap.size + 2) c2 t2 ∧ Below w.heap.size w (((w.alloc (.cells c0 t0)).alloc (.cells c1 t1)).alloc (.cells c2 t2)) := by
  obtain ⟨h1, h2, h3⟩ := three8 w c0 c1 c2 t0 t1 t2
  exact ⟨((Bk.new _ _ _).below (below1 _ _)).below (below1 _ _), h2, h1, h3⟩
end Go.Proofs.YtechceagghcipaaGreat
/-
  base: having (the iterator itself comes later).
-/
namespace Go.Proofs.YtechceagghcipaaGreat
open Go.RowKit
attribute [local go_sem ↓] Go.wp_at_zero Go.wp_at_succ

/-- What having lays for its iterator: five boxes. -/
structure HV8 (g : Nat) (nm : ByteArray) (n : Nat) (parts : Int) (cv kv : Value) (b : Nat) (Y' : World) : Prop where
  b0 : Bk Y' b #[.pointer (some ⟨g, 0, none⟩)] 23
  b1 : Bk Y' (b + 1) #[.string nm, .int .i64 (n : Int)] 43
  b2 : Bk Y' (b + 2) #[.int .i64 parts] 3
  b3 : Bk Y' (b + 3) #[cv] 53
  b4 : Bk Y' (b + 4) #[kv] 53
theorem HV8.below {g : Nat} {nm : ByteArray} {n : Nat} {parts : Int} {cv kv : Value} {b : Nat} {Y Y' : World} (h : HV8 g nm n parts cv kv b Y) (hb : Below Y.heap.size Y Y') : HV8 g nm n parts cv kv b Y' := ⟨h.b0.below hb, h.b1.below hb, h.b2.below hb, h.b3.below hb, h.b4.below hb⟩
def hav8 (b : Nat) : Value := .func (.func 55) #[] #[.pointer (some ⟨b, 0, none⟩), .pointer (some ⟨b + 1, 0, none⟩), .pointer (some ⟨b + 2, 0, none⟩), .pointer (some ⟨b + 3, 0, none⟩), .pointer (some ⟨b + 4, 0, none⟩)]
set_option maxRecDepth 20000 in
set_option maxHeartbeats 1000000 in
theorem having8_any (g : Nat) (nm : ByteArray) (n : Nat) (parts : Int) (ca ka : Option Addr) (cn cc kn kc : Nat) (Y : World) :
    Calls Tryz.prog 23 #[.pointer (some ⟨g, 0, none⟩), .agg #[.string nm, .int .i64 (n : Int)], .int .i64 parts, .slice ca cn cc, .slice ka kn kc] Y fun e Y' => e = .returned (hav8 Y.heap.size) ∧ HV8 g nm n parts (.slice ca cn cc) (.slice ka kn kc) Y.heap.size Y' ∧ Below Y.heap.size Y Y' := by
  go_enter Tryz.func23, Tryz.ntmps23
  go_wp2
  go_ret
  obtain ⟨h0, h1, h2, hb⟩ := three9 Y #[.pointer (some ⟨g, 0, none⟩)] #[.string nm, .int .i64 (n : Int)] #[.int .i64 parts] 23 43 3
  generalize hW : (((Y.alloc (.cells #[.pointer (some ⟨g, 0, none⟩)] 23)).alloc (.cells #[.string nm, .int .i64 (n : Int)] 43)).alloc (.cells #[.int .i64 parts] 3)) = W at *
  have hz : W.heap.size = Y.heap.size + 3 := by rw [← hW]; simp
  obtain ⟨h4, h3, hb2⟩ := two8 W #[.slice ca cn cc] #[.slice ka kn kc] 53 53
  rw [hz] at h3 h4
  exact ⟨rfl, ⟨h0.below hb2, h1.below hb2, h2.below hb2, h3, h4⟩, below_step hb hb2⟩
end Go.Proofs.YtechceagghcipaaGreat
