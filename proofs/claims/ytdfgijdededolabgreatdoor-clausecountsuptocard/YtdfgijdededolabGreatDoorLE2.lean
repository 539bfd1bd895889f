import Derived.Test.YtdfgijdededolabGreatDoorL1
import Derived.Test.YtdfgijdededolabGreatDoorCL29
import Derived.Test.YtdfgijdededolabGreatDoorMD14
/-
  Numbers of variables; constants for variables. (Plain.)
-/
namespace Go.Proofs.YtdfgijdededolabGreatDoor
open Go.RowKit

/-- The numbers below n. -/
def ints (n : Nat) : List Int := (List.range n).map fun i : Nat => (i : Int)
theorem mem_ints {n : Nat} {v : Int} : v ∈ ints n ↔ 0 ≤ v ∧ v < n := by
  simp only [ints, List.mem_map, List.mem_range]
  exact ⟨fun ⟨i, h, e⟩ => by omega, fun ⟨h1, h2⟩ => ⟨v.toNat, by omega, by omega⟩⟩
theorem ints_succ (n : Nat) : ints (n + 1) = ints n ++ [(n : Int)] := by simp [ints, List.range_succ]
theorem ints_len (n : Nat) : (ints n).length = n := by simp [ints]
theorem mis_ints : ∀ (l : List Int) (n : Nat), (∀ v ∈ l, 0 ≤ v) → mis n l = false → ∃ m, n ≤ m ∧ l.foldl dstep (ints n) = ints m ∧ ∀ v ∈ l, v < m
  | [], n, _, _ => ⟨n, Nat.le_refl _, rfl, fun v hv => by cases hv⟩
  | v :: l, n, h0, h => by
    rw [mis] at h
    by_cases h1 : (n : Int) < v
    · rw [if_pos h1] at h; cases h
    · rw [if_neg h1] at h
      have hv := h0 v (by simp)
      rw [List.foldl_cons]
      by_cases h2 : v = n
      · rw [if_pos h2] at h
        have e : dstep (ints n) v = ints (n + 1) := by
          unfold dstep; rw [if_neg (by rw [mem_ints]; omega), ints_succ, h2]
        obtain ⟨m, k1, k2, k3⟩ := mis_ints l (n + 1) (fun u hu => h0 u (by simp [hu])) (by exact_mod_cast h)
        rw [e]
        refine ⟨m, by omega, k2, fun u hu => ?_⟩
        rcases List.mem_cons.1 hu with rfl | hu
        · omega
        · exact k3 u hu
      · rw [if_neg h2] at h
        have e : dstep (ints n) v = ints n := by
          unfold dstep; rw [if_pos (by rw [mem_ints]; omega)]
        obtain ⟨m, k1, k2, k3⟩ := mis_ints l n (fun u hu => h0 u (by simp [hu])) h
        rw [e]
        refine ⟨m, k1, k2, fun u hu => ?_⟩
        rcases List.mem_cons.1 hu with rfl | hu
        · omega
        · exact k3 u hu
theorem fold_filter (p : Int → Bool) : ∀ (l acc : List Int), (l.filter p).foldl dstep (acc.filter p) = (l.foldl dstep acc).filter p
  | [], _ => rfl
  | v :: l, acc => by
    rw [List.foldl_cons, ← fold_filter p l]
    cases hp : p v
    · rw [List.filter_cons_of_neg (by simp [hp])]
      congr 1
      unfold dstep
      split
      · rfl
      · rw [List.filter_append]; simp [hp]
    · rw [List.filter_cons_of_pos hp, List.foldl_cons]
      congr 1
      unfold dstep
      by_cases h : v ∈ acc
      · rw [if_pos h, if_pos (List.mem_filter.2 ⟨h, hp⟩)]
      · rw [if_neg h, if_neg (fun e => h (List.mem_filter.1 e).1), List.filter_append]; simp [hp]
theorem ints_from (few : Nat) : ∀ m : Nat, ((ints m).filter fun v => decide ((few : Int) ≤ v)).length = m - few
  | 0 => by simp [ints]
  | m + 1 => by
    rw [ints_succ, List.filter_append, List.length_append, ints_from few m]
    by_cases h : few ≤ m
    · rw [List.filter_cons_of_pos (by simp; omega)]; simp; omega
    · rw [List.filter_cons_of_neg (by simp; omega)]; simp; omega
theorem ints_sub : ∀ {m : Nat} {L : List Int}, (∀ v ∈ ints m, v ∈ L) → m ≤ L.length
  | 0, _, _ => Nat.zero_le _
  | m + 1, L, h => by
    have hm : (m : Int) ∈ L := h _ (by rw [mem_ints]; omega)
    have := ints_sub (m := m) (L := L.erase (m : Int)) fun v hv => by
      have h2 := mem_ints.1 hv
      exact (List.mem_erase_of_ne (by omega)).2 (h v (by rw [mem_ints]; omega))
    rw [List.length_erase_of_mem hm] at this
    have := List.length_pos_of_mem hm
    omega
/-- So many constants out of any terms. -/
def cst (l : List Tm) (i : Nat) : Tm := match l[i]? with | some t => mkC t | none => ⟨1, (i : Int), ⟨#[]⟩⟩
def csts (l : List Tm) (n : Nat) : List Tm := (List.range n).map (cst l)
theorem cst_con (l : List Tm) (i : Nat) : (cst l i).con = true := by
  unfold cst; split
  · exact mkC_con _
  · simp [Tm.con]
theorem csts_len (l : List Tm) (n : Nat) : (csts l n).length = n := by simp [csts]
theorem csts_get (l : List Tm) {n i : Nat} (h : i < n) : (csts l n)[i]? = some (cst l i) := by simp [csts, h]
theorem csts_none (l : List Tm) {n i : Nat} (h : n ≤ i) : (csts l n)[i]? = none := by simp [csts, h]
theorem csts_succ (l : List Tm) (n : Nat) : csts l (n + 1) = csts l n ++ [cst l n] := by simp [csts, List.range_succ]
theorem var_nn {t : Tm} (h : t.var = true) : 0 ≤ t.n := by simp only [Tm.var, decide_eq_true_eq] at h; exact h.2.1
theorem ins_in {l : List Tm} {n : Nat} {t : Tm} (h : t.var = true) (hn : t.n < n) : ins (csts l n) t = cst l t.n.toNat := by
  unfold ins; rw [if_pos h, csts_get l (by have := var_nn h; omega)]; rfl
theorem ins_out {l : List Tm} {n : Nat} {t : Tm} (h : t.var = true) (hn : (n : Int) ≤ t.n) : ins (csts l n) t = t := by
  unfold ins; rw [if_pos h, csts_none l (by omega)]; rfl
theorem ins_non {vs : List Tm} {t : Tm} (h : t.var = false) : ins vs t = t := by unfold ins; rw [if_neg (by rw [h]; simp)]
/-- A valid clause's variables: those below their number. -/
theorem num_vars {x : Ck} (hm : mis 0 (vrs (Ck.terms x)) = false) : ∃ m, dis (vrs (Ck.terms x)) = ints m ∧ ∀ t ∈ Ck.terms x, t.var = true → t.n < m := by
  obtain ⟨m, -, h2, h3⟩ := mis_ints (vrs (Ck.terms x)) 0 (fun v hv => by
    obtain ⟨t, ht, rfl⟩ := List.mem_map.1 hv
    exact var_nn (List.mem_filter.1 ht).2) hm
  exact ⟨m, h2, fun t ht hv => h3 _ (List.mem_map.2 ⟨t, List.mem_filter.2 ⟨ht, hv⟩, rfl⟩)⟩
theorem dis_mem {l : List Int} {v : Int} : v ∈ dis l ↔ v ∈ l := by
  unfold dis
  have : ∀ (l acc : List Int), v ∈ l.foldl dstep acc ↔ v ∈ acc ∨ v ∈ l := by
    intro l
    induction l with
    | nil => intro acc; simp
    | cons a l ih =>
      intro acc
      rw [List.foldl_cons, ih, List.mem_cons, dstep]
      by_cases h : a ∈ acc
      · rw [if_pos h]
        exact ⟨fun e => e.elim Or.inl fun e => Or.inr (Or.inr e), fun e => e.elim Or.inl fun e => e.elim (fun e => Or.inl (e ▸ h)) Or.inr⟩
      · rw [if_neg h, List.mem_append, List.mem_singleton, or_assoc]
  rw [this]; simp
theorem body_len {x : Ck} (h : Val0 x) : (x.2.1.flatMap At.pl).length ≤ 72 := by
  have hl := h.bl
  have he : ∀ a ∈ x.2.1, a.pl.length ≤ 9 := fun a ha => by
    have := (err_zero' (h.e a (by simp [ha]))).2.1
    simp [At.pl]; omega
  have : ∀ l : List At, (∀ a ∈ l, a.pl.length ≤ 9) → (l.flatMap At.pl).length ≤ l.length * 9 := by
    intro l
    induction l with
    | nil => intro _; simp
    | cons a l ih =>
      intro h
      rw [List.flatMap_cons, List.length_append, List.length_cons]
      have h1 := h a (by simp)
      have h2 := ih fun b hb => h b (by simp [hb])
      omega
  have := this _ he
  omega
theorem num_le {x : Ck} (h : Val0 x) {m : Nat} (hd : dis (vrs (Ck.terms x)) = ints m) : m ≤ 72 := by
  have h2 := body_len h
  have : m ≤ (vrs (x.2.1.flatMap At.pl)).length := ints_sub fun v hv => by
    rw [← hd, dis_mem] at hv
    obtain ⟨t, ht, rfl⟩ := List.mem_map.1 hv
    obtain ⟨ht, hvt⟩ := List.mem_filter.1 ht
    refine List.mem_map.2 ⟨t, List.mem_filter.2 ⟨?_, hvt⟩, rfl⟩
    unfold Ck.terms at ht
    rcases List.mem_append.1 ht with ht | ht
    · exact h.s t (by simp [ht]) hvt
    · rcases List.mem_append.1 ht with ht | ht
      · exact ht
      · exact h.s t (by simp [ht]) hvt
  have h3 : (vrs (x.2.1.flatMap At.pl)).length ≤ (x.2.1.flatMap At.pl).length := by
    unfold vrs; rw [List.length_map]; exact List.length_filter_le _ _
  omega
/-- ClauseLeaves, plain. -/
theorem leaves_none {x : Ck} {m : Nat} (l : List Tm) (h : ∀ t ∈ Ck.terms x, t.var = true → t.n < m) : vrs (Ck.terms (mapC (ins (csts l m)) x)) = [] := by
  rw [mapC_terms, vrs, List.map_eq_nil_iff, List.filter_eq_nil_iff]
  intro u hu
  obtain ⟨t, ht, rfl⟩ := List.mem_map.1 hu
  cases hv : t.var
  · rw [ins_non hv, hv]; simp
  · rw [ins_in hv (h t ht hv), con_novar (cst_con _ _)]; simp
theorem leaves_some {x : Ck} {m few : Nat} (l : List Tm) (hd : dis (vrs (Ck.terms x)) = ints m) : (dis (vrs (Ck.terms (mapC (ins (csts l few)) x)))).length = m - few := by
  have e : vrs (Ck.terms (mapC (ins (csts l few)) x)) = (vrs (Ck.terms x)).filter fun v => decide ((few : Int) ≤ v) := by
    rw [mapC_terms]
    generalize Ck.terms x = L
    induction L with
    | nil => rfl
    | cons t L ih =>
      unfold vrs at ih ⊢
      rw [List.map_cons]
      cases hv : t.var
      · rw [ins_non hv, List.filter_cons_of_neg (by simp [hv]), List.filter_cons_of_neg (by simp [hv])]; exact ih
      · by_cases hn : t.n < few
        · rw [ins_in hv hn, List.filter_cons_of_neg (by simp [con_novar (cst_con _ _)]), List.filter_cons_of_pos hv, List.map_cons, List.filter_cons_of_neg (by simp; omega)]; exact ih
        · rw [ins_out hv (by omega), List.filter_cons_of_pos hv, List.filter_cons_of_pos hv, List.map_cons, List.map_cons, List.filter_cons_of_pos (by simp; omega), ih]
  rw [e]
  have := fold_filter (fun v => decide ((few : Int) ≤ v)) (vrs (Ck.terms x)) []
  rw [List.filter_nil] at this
  unfold dis at hd ⊢
  rw [this, hd, ints_from]
theorem leaves_twice {x : Ck} {m few : Nat} (l : List Tm) (hf : few ≤ m) : mapC (ins (csts l m)) (mapC (ins (csts l few)) x) = mapC (ins (csts l m)) x := by
  rw [mapC_comp]
  refine mapC_congr fun t ht => ?_
  cases hv : t.var
  · rw [ins_non (vs := csts l few) hv]
  · by_cases hn : t.n < few
    · rw [ins_in (n := few) hv hn, ins_non (con_novar (cst_con _ _)), ins_in hv (by omega)]
    · rw [ins_out (n := few) hv (by omega)]
theorem leaves_same {x : Ck} (l : List Tm) (h : ∀ t ∈ Ck.terms x, t.var = true → t.n < ((0 : Nat) : Int)) : mapC (ins (csts l 0)) x = x := by
  refine (mapC_congr (g := fun t => t) fun t ht => ?_).trans (mapC_id x)
  refine ins_non ?_
  cases hv : t.var
  · rfl
  · have := h t ht hv; have := var_nn hv; omega
theorem insA_map (vs : List Tm) : insA vs = mapA (ins vs) := rfl
theorem insE_map (vs : List Tm) : insE vs = mapE (ins vs) := rfl
end Go.Proofs.YtdfgijdededolabGreatDoor
/-
  Instance. (Written by CL30.py.)
-/
namespace Go.Proofs.YtdfgijdededolabGreatDoor
open Go.RowKit
attribute [local go_sem ↓] Go.wp_at_zero Go.wp_at_succ

set_option maxRecDepth 20000 in
set_option maxHeartbeats 4000000 in
theorem inst_any (vs : List Tm) (v : Value) (c : Cm) (w : World) (hv : Ts w v vs) (h : c.ok w) (hl1 : c.head.1.args.length ≤ 1900000000000) (hl2 : c.body.length ≤ 1900000000000) (hl3 : c.tests.length ≤ 1900000000000) (hl4 : ∀ x ∈ c.body, x.1.args.length ≤ 1900000000000) :
    Calls Tryz.prog 63 #[c.v, v] w (IPost w c vs) := by
  have hb3 := below_step (below2 w (.cells c.cs 41) (.cells #[v] 24)) (below1 _ (.cells zcs 41))
  have x1 := (CBlk.new (w.alloc (.cells c.cs 41)) #[v] 24).later (below1 _ (.cells zcs 41))
  have x2 := CBlk.new ((w.alloc (.cells c.cs 41)).alloc (.cells #[v] 24)) zcs 41
  rw [show (w.alloc (.cells c.cs 41)).heap.size = w.heap.size + 1 by simp] at x1
  rw [show ((w.alloc (.cells c.cs 41)).alloc (.cells #[v] 24)).heap.size = w.heap.size + 1 + 1 by simp] at x2
  have K1 := rep_inst vs v (w.heap.size + 1) c (((w.alloc (.cells c.cs 41)).alloc (.cells #[v] 24)).alloc (.cells zcs 41)) ⟨x1, hv.later hb3⟩ (h.later hb3) hl1 hl2 hl3 hl4
  have z2 : (((w.alloc (.cells c.cs 41)).alloc (.cells #[v] 24)).alloc (.cells zcs 41)).heap.size = w.heap.size + 3 := by simp
  have HB2 : Hid (Below w.heap.size w (((w.alloc (.cells c.cs 41)).alloc (.cells #[v] 24)).alloc (.cells zcs 41))) := hb3
  have HX2 : Hid (CBlk (((w.alloc (.cells c.cs 41)).alloc (.cells #[v] 24)).alloc (.cells zcs 41)) (w.heap.size + 1 + 1) zcs 41) := x2
  clear hl1 hl2 hl3 hl4 hb3 x1 x2
  obtain ⟨av, cv, rfl, -, -⟩ := hv
  obtain ⟨⟨a, hn, cap, h1⟩, ⟨a', cap', h2⟩, ⟨a'', cap'', h3⟩, hbl, htl⟩ := h.shape
  clear h
  obtain ⟨⟨⟨⟨k, m, s⟩, nm, ls⟩, hx⟩, body, bv, tests, tv⟩ := c
  simp only at h1 h2 h3 hbl htl
  subst h1 h2 h3
  go_enter Tryz.func63, Tryz.ntmps63
  go_wp2_with (go_at_call 100; refine K1.mono ?_; clear K1; rintro e w1 ⟨M1, M2, M3, lb, rfl, hrp, hb1⟩; have hbx := HX2.out.later hb1; obtain ⟨r0, r1, r2, r3, r4, r5, r6⟩ := cseven hbx; have hfr : ∀ i, w1.frozen? ⟨w.heap.size + 1 + 1, i, none⟩ = false := fun i => hbx.froz; have s0 := hfr 0; have s1 := hfr 1; have s2 := hfr 2; have s3 := hfr 3; have s4 := hfr 4; have s5 := hfr 5; have s6 := hfr 6; rw [z2] at hrp; have HRP : Hid (RJ (w.heap.size + 3) w1 ls.length body.length tests.length (ls.map (ins vs)) ((fsts body).map (insA vs)) (tests.map (insE vs)) M1 M2 M3 lb) := hrp; have HW1 : Hid (Below w.heap.size w w1) := below_step HB2.out hb1; clear hfr hrp hb1 hbx HB2 HX2; simp only [Cm.cpI, insA])
  have nw : w.heap.size ≤ w.heap.size + 1 + 1 := by omega
  have ng : w.heap.size + 1 + 1 < w.heap.size + 3 := by omega
  have hrp := HRP.out
  have hbw := HW1.out
  exact bodyPost_ret (v := (Cm.cpI ⟨(⟨⟨k, m, s⟩, nm, ls⟩, .slice a hn cap), body, .slice a' body.length cap', tests, .slice a'' tests.length cap''⟩ vs M1 M2 M3 lb).v) (by simp [results, Tryz.results63, go_sem, Cm.v, Cm.cpI, insA, r0, r1, r2, r3, r4, r5, r6]) rfl
    ⟨M1, M2, M3, lb, rfl, (((((((hrp.off ng).off ng).off ng).off ng).off ng).off ng).off ng).mono (by omega), ((((((hbw.setCell nw _).setCell nw _).setCell nw _).setCell nw _).setCell nw _).setCell nw _).setCell nw _⟩
end Go.Proofs.YtdfgijdededolabGreatDoor
/-
  consts; Instance, Vars of small clauses.
-/
namespace Go.Proofs.YtdfgijdededolabGreatDoor
open Go.RowKit
attribute [local go_sem ↓] Go.wp_at_zero Go.wp_at_succ

theorem cst_in {l : List Tm} {i : Nat} {t : Tm} (h : l[i]? = some t) : cst l i = mkC t := by unfold cst; rw [h]
theorem cst_out {l : List Tm} {i : Nat} (h : l.length ≤ i) : cst l i = ⟨1, (i : Int), ⟨#[]⟩⟩ := by unfold cst; rw [List.getElem?_eq_none h]
/-- A clause of few and short lists. -/
structure KS (x : Ck) : Prop where
  h : x.1.args.length ≤ 8
  b : x.2.1.length ≤ 8
  t : x.2.2.length ≤ 8
  x : ∀ a ∈ x.2.1, a.args.length ≤ 8
theorem Val0.ks {x : Ck} (h : Val0 x) : KS x := ⟨(err_zero' (h.e _ (by simp))).2.1, h.bl, h.tl, fun a ha => (err_zero' (h.e a (by simp [ha]))).2.1⟩
theorem KS.map {x : Ck} (h : KS x) (f : Tm → Tm) : KS (mapC f x) := ⟨by simpa [mapC, mapA] using h.h, by simpa [mapC] using h.b, by simpa [mapC] using h.t, fun a ha => by obtain ⟨b, hb, rfl⟩ := List.mem_map.1 ha; simpa [mapA] using h.x b hb⟩
theorem KS.len {x : Ck} (h : KS x) : (Ck.terms x).length ≤ 100 := by
  have h1 := h.h; have h2 := h.b; have h3 := h.t
  have := flat_len9 x.2.1 fun a ha => by have := h.x a ha; simp [At.pl]; omega
  unfold Ck.terms
  rw [List.length_append, List.length_append, tls_len]
  simp [At.pl] at this ⊢
  omega
theorem KS.lens {c : Cm} (h : KS c.key) : c.head.1.args.length ≤ 8 ∧ c.body.length ≤ 8 ∧ c.tests.length ≤ 8 ∧ ∀ x ∈ c.body, x.1.args.length ≤ 8 :=
  ⟨h.h, by have := h.b; simpa [Cm.key, fsts] using this, h.t, fun x hx => h.x x.1 (List.mem_map.2 ⟨x, hx, rfl⟩)⟩
theorem MCl.ok8 {B : Nat} {X : World} {d : Cm} (h : MCl B X d) (hs : KS d.key) : d.ok X := by
  obtain ⟨h1, h2, h3, h4⟩ := hs.lens
  exact h.ok (by omega) (by omega) (fun y hy => by have := h4 y hy; omega) (by omega)
theorem inst3_any (c : Cm) (vs : List Tm) (v : Value) (w : World) (h : c.ok w) (hv : Ts w v vs) (hs : KS c.key) :
    Calls Tryz.prog 63 #[c.v, v] w fun e w' => ∃ d : Cm, e = .returned d.v ∧ d.key = mapC (ins vs) c.key ∧ d.ok w' ∧ Below w.heap.size w w' := by
  obtain ⟨h1, h2, h3, h4⟩ := hs.lens
  refine (inst_any vs v c w hv h (by omega) (by omega) (by omega) (fun x hx => by have := h4 x hx; omega)).mono fun e w' he => ?_
  obtain ⟨M1, M2, M3, lb, rfl, hr, hb⟩ := he
  have hl : lb.length = c.body.length := by have := congrArg List.length hr.f; simpa [fsts] using this
  refine ⟨_, rfl, ?_, ⟨?_, ?_, ?_⟩, hb⟩
  · unfold Cm.key mapC Cm.cpI
    simp only
    rw [hr.f]; rfl
  · have := hr.t1
    rwa [show (c.cpI vs M1 M2 M3 lb).head.1.args = c.head.1.args.map (ins vs) from rfl]
  · exact hr.a.as hl (by omega) fun x hx => (hr.ts x hx).1.1
  · exact hr.e.es (by simp) (by omega)
theorem wf_small {v : Int} (h : 0 ≤ v) (h' : v < 100000) : (Lit.int .i64 v).wf = true := by
  simp only [Lit.wf, IntKind.min, IntKind.max, IntKind.signed, IntKind.bits, Bool.and_eq_true, decide_eq_true_eq, if_true]
  omega
theorem vars3_any (c : Cm) (w : World) (h : c.ok w) (hs : KS c.key) (hn : ∀ t ∈ Ck.terms c.key, t.var = true → t.n < 100000) :
    Calls Tryz.prog 44 #[c.v] w fun e w' => e = .returned (.int .i64 ((dis (vrs (Ck.terms c.key))).length : Nat)) ∧ Below w.heap.size w w' := by
  have e : c.vars = vrs (Ck.terms c.key) := by rw [← key_terms]; rfl
  rw [← e]
  refine vars_any c w h (fun v hv => ?_) ?_
  · rw [e] at hv
    obtain ⟨t, ht, rfl⟩ := List.mem_map.1 hv
    obtain ⟨ht, hvt⟩ := List.mem_filter.1 ht
    exact wf_small (var_nn hvt) (hn t ht hvt)
  · rw [e]
    have := vrs_len (Ck.terms c.key)
    have := hs.len
    omega
theorem same_of_key {c d : Cm} (h : c.key = d.key) : c.same d = true := by
  unfold Cm.key at h
  simp only [Prod.mk.injEq] at h
  unfold Cm.same
  simp [h.1, h.2.1, h.2.2]
end Go.Proofs.YtdfgijdededolabGreatDoor
/-
  Clauses that lie above a block: Instance and Made answer such.
-/
namespace Go.Proofs.YtdfgijdededolabGreatDoor
open Go.RowKit

/-- The clause d lies in the blocks of X from B on: wherever these are as in X, it is there. -/
def Kp (B : Nat) (X : World) (d : Cm) : Prop := ∀ X' : World, X.heap.size ≤ X'.heap.size → (∀ b, B ≤ b → b < X.heap.size → X'.heap[b]? = X.heap[b]?) → d.ok X'
theorem Kp.ok {B : Nat} {X : World} {d : Cm} (h : Kp B X d) : d.ok X := h X (Nat.le_refl _) fun _ _ _ => rfl
theorem Kp.later {B : Nat} {X X' : World} {d : Cm} (h : Kp B X d) (hb : Below X.heap.size X X') : Kp B X' d := fun Y hs ha =>
  h Y (Nat.le_trans hb.size hs) fun b h1 h2 => (ha b h1 (Nat.lt_of_lt_of_le h2 hb.size)).trans (hb.block b h2)
theorem Kp.mono {B B' : Nat} {X : World} {d : Cm} (h : Kp B X d) (hB : B' ≤ B) : Kp B' X d := fun Y hs ha => h Y hs fun b h1 h2 => ha b (Nat.le_trans hB h1) h2
theorem Kp.off {B G i : Nat} {X : World} {d : Cm} {c : Value} (h : Kp B X d) (hG : G < B) : Kp B (X.setCell ⟨G, i, none⟩ c) d := fun Y hs ha =>
  h Y (by simpa [World.setCell] using hs) fun b h1 h2 => (ha b h1 (by simpa [World.setCell] using h2)).trans (heap_setCell_other _ _ _ _ (show b ≠ G by omega))
theorem Ts.agree {X X' : World} {v : Value} {l : List Tm} (h : Ts X v l) (hs : X.heap.size ≤ X'.heap.size) (hb : ∀ b, v.ownBlock = some b → b < X.heap.size → X'.heap[b]? = X.heap[b]?) : Ts X' v l := by
  obtain ⟨a, cap, rfl, hl, hm⟩ := h
  refine ⟨a, cap, rfl, hl, ?_⟩
  rcases hm with hm | ⟨b, o, rfl, hlt, hm⟩
  · exact Or.inl hm
  · have hc : ∀ j, X'.cell? ⟨b, j, none⟩ = X.cell? ⟨b, j, none⟩ := fun j => World.cell?_of_block (w := X) (a := ⟨b, j, none⟩) (hb b rfl hlt)
    refine Or.inr ⟨b, o, rfl, Nat.lt_of_lt_of_le hlt hs, fun q t ht => ?_⟩
    simp only [hc]
    exact hm q t ht
theorem RJ.kp {B : Nat} {X : World} {c : Cm} {vs : List Tm} {M1 M2 M3 : Nat} {lb : List (At × Value)} (h : RJ B X c.head.1.args.length c.body.length c.tests.length (c.head.1.args.map (ins vs)) ((fsts c.body).map (insA vs)) (c.tests.map (insE vs)) M1 M2 M3 lb)
    (h2 : c.body.length < 1000000000000000000) (h3 : c.tests.length < 1000000000000000000) : Kp B X (c.cpI vs M1 M2 M3 lb) := fun Y hs ha => by
  have hl : lb.length = c.body.length := by have := congrArg List.length h.f; simpa [fsts] using this
  have hA : ABlk Y M2 c.body.length lb := by
    obtain ⟨C, e1, e2, e3⟩ := h.a
    exact ⟨C, (ha M2 h.b2 h.a.lt).trans e1, e2, e3⟩
  have hE : EBlk Y M3 c.tests.length (c.tests.map (insE vs)) := by
    obtain ⟨C, e1, e2, e3⟩ := h.e
    exact ⟨C, (ha M3 (by have := h.b2; have := h.b3; omega) h.e.lt).trans e1, e2, e3⟩
  refine ⟨?_, hA.as hl h2 fun x hx => (h.ts x hx).1.1.agree hs fun b e hlt => ha b ((h.ts x hx).2 b e) hlt, hE.es (by simp) h3⟩
  exact h.t1.agree hs fun b e hlt => by obtain rfl : M1 = b := Option.some.inj e; exact ha M1 h.b1 hlt
theorem OwnT.agree {X X' : World} {B : Nat} {v : Value} {l : List Tm} (h : OwnT X B v l) (hb : ∀ b, B ≤ b → b < X.heap.size → X'.heap[b]? = X.heap[b]?) : OwnT X' B v l := by
  refine ⟨h.1, ?_⟩
  rcases h.2 with hn | ⟨g, cap, cur, hv, hbb, hg, rest⟩
  · exact Or.inl hn
  · exact Or.inr ⟨g, cap, cur, hv, hbb, (hb g hbb (Array.getElem?_eq_some_iff.1 hg).1).trans hg, rest⟩
theorem OwnA.agree {X X' : World} {B : Nat} {v : Value} {l : List (At × Value)} (h : OwnA X B v l) (hb : ∀ b, B ≤ b → b < X.heap.size → X'.heap[b]? = X.heap[b]?) : OwnA X' B v l := by
  refine ⟨h.1, ?_⟩
  rcases h.2 with hn | ⟨g, cap, cur, hv, hbb, hg, rest⟩
  · exact Or.inl hn
  · exact Or.inr ⟨g, cap, cur, hv, hbb, (hb g hbb (Array.getElem?_eq_some_iff.1 hg).1).trans hg, rest⟩
theorem OwnE.agree {X X' : World} {B : Nat} {v : Value} {l : List Te} (h : OwnE X B v l) (hb : ∀ b, B ≤ b → b < X.heap.size → X'.heap[b]? = X.heap[b]?) : OwnE X' B v l := by
  refine ⟨h.1, ?_⟩
  rcases h.2 with hn | ⟨g, cap, cur, hv, hbb, hg, rest⟩
  · exact Or.inl hn
  · exact Or.inr ⟨g, cap, cur, hv, hbb, (hb g hbb (Array.getElem?_eq_some_iff.1 hg).1).trans hg, rest⟩
theorem MCl.kp {B : Nat} {X : World} {d : Cm} (h : MCl B X d) (hs : KS d.key) : Kp B X d := fun Y _ ha =>
  (show MCl B Y d from ⟨h.h.agree ha, h.b.agree ha, fun y hy => (h.x y hy).agree ha, h.t.agree ha, h.s⟩).ok8 hs
theorem inst4_any (c : Cm) (vs : List Tm) (v : Value) (w : World) (h : c.ok w) (hv : Ts w v vs) (hs : KS c.key) :
    Calls Tryz.prog 63 #[c.v, v] w fun e w' => ∃ d : Cm, e = .returned d.v ∧ d.key = mapC (ins vs) c.key ∧ Kp w.heap.size w' d ∧ Below w.heap.size w w' := by
  obtain ⟨h1, h2, h3, h4⟩ := hs.lens
  refine (inst_any vs v c w hv h (by omega) (by omega) (by omega) (fun x hx => by have := h4 x hx; omega)).mono fun e w' he => ?_
  obtain ⟨M1, M2, M3, lb, rfl, hr, hb⟩ := he
  refine ⟨_, rfl, ?_, hr.kp (by omega) (by omega), hb⟩
  unfold Cm.key mapC Cm.cpI
  simp only
  rw [hr.f]; rfl
/-- A clause in its box. -/
structure Bx (X : World) (G : Nat) (d : Cm) : Prop where
  b : CBlk X G d.cs 41
  o : d.ok X
theorem Bx.later {X X' : World} {G : Nat} {d : Cm} (h : Bx X G d) (hb : Below X.heap.size X X') : Bx X' G d := ⟨h.b.later hb, h.o.later hb⟩
theorem Bx.new {X : World} {d : Cm} (h : d.ok X) : Bx (X.alloc (.cells d.cs 41)) X.heap.size d := ⟨CBlk.new _ _ _, h.later (below1 _ _)⟩
abbrev Cput (X : World) (G : Nat) (a b c d e f g : Value) : World := ((((((X.setCell ⟨G, 0, none⟩ a).setCell ⟨G, 1, none⟩ b).setCell ⟨G, 2, none⟩ c).setCell ⟨G, 3, none⟩ d).setCell ⟨G, 4, none⟩ e).setCell ⟨G, 5, none⟩ f).setCell ⟨G, 6, none⟩ g
theorem CBlk.put7 {X : World} {G : Nat} {t : TypeId} (h : CBlk X G zcs t) (a b c d e f g : Value) : CBlk (Cput X G a b c d e f g) G #[a, b, c, d, e, f, g] t := by
  have := ((((((h.set 0 a).set 1 b).set 2 c).set 3 d).set 4 e).set 5 f).set 6 g
  simpa [zcs] using this
theorem bput7 {W X : World} {B G : Nat} (h : Below B W X) (hG : B ≤ G) (a b c d e f g : Value) : Below B W (Cput X G a b c d e f g) := ((((((h.setCell (show B ≤ G from hG) _).setCell (show B ≤ G from hG) _).setCell (show B ≤ G from hG) _).setCell (show B ≤ G from hG) _).setCell (show B ≤ G from hG) _).setCell (show B ≤ G from hG) _).setCell (show B ≤ G from hG) _
theorem Kp.put7 {B G : Nat} {X : World} {d : Cm} (h : Kp B X d) (hG : G < B) (a b c d' e f g : Value) : Kp B (Cput X G a b c d' e f g) d := ((((((h.off hG).off hG).off hG).off hG).off hG).off hG).off hG
end Go.Proofs.YtdfgijdededolabGreatDoor
