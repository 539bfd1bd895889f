/-
  hearsaylaw12: first. (Written by HC11.py.)
-/
import Derived.Test.YtbhdalchnbfohaaHC10
import Derived.Test.YtbhdalchnbfohaaHC8
import Derived.Test.YtbhdalchnbfohaaCL14
namespace Go.Proofs.Ytbhdalchnbfohaa
open Go.RowKit
attribute [local go_sem ↓] Go.wp_at_zero Go.wp_at_succ

theorem fsts_four {l : List (At × Value)} {a b c d : At} (h : fsts l = [a, b, c, d]) : ∃ v0 v1 v2 v3, l = [(a, v0), (b, v1), (c, v2), (d, v3)] := by
  match l, h with
  | [(x0, v0), (x1, v1), (x2, v2), (x3, v3)], h =>
    simp only [fsts, List.map_cons, List.map_nil, List.cons.injEq, and_true] at h
    obtain ⟨rfl, rfl, rfl, rfl⟩ := h
    exact ⟨_, _, _, _, rfl⟩
theorem key_len4 {S : List St} (h : S.map St.key = S4) : S.length ≤ 1000000000000 := by
  have := congrArg List.length h
  simp [S4] at this
  omega
theorem ckey_len4 {l : List Cm} (h : l.map Cm.key = K4) : l.length = 4 := by
  have := congrArg List.length h
  simpa [K4] using this
theorem CsP.take3 {w : World} {g : Nat} {l : List Cm} (h : CsP w (.slice (some ⟨g, 0, none⟩) 4 4) l) (hl : l.length = 4) : CsP w (.slice (some ⟨g, 0, none⟩) 3 4) (l.take 3) := by
  refine ⟨?_, fun c hc => h.ok c (List.mem_of_mem_take hc)⟩
  rcases h.m with ⟨h1, -⟩ | ⟨ad, cap, h1, h2⟩
  · cases h1
  · simp only [Value.slice.injEq, Option.some.injEq] at h1
    obtain ⟨rfl, -, rfl⟩ := h1
    rcases h2 with rfl | ⟨b, o, e, h3, h4⟩
    · simp at hl
    · cases e
      refine Or.inr ⟨_, _, by rw [List.length_take, hl]; rfl, Or.inr ⟨_, _, rfl, h3, fun i c hc k u hu => h4 i c ?_ k u hu⟩⟩
      rw [List.getElem?_take] at hc
      split at hc
      · exact hc
      · cases hc
/-- The example in memory, and the two variables that hold it. -/
structure F4 (w X : World) (gr gs gf P Q : Nat) (R : List Cm) (S : List St) : Prop where
  cR : CsP X (.slice (some ⟨gr, 0, none⟩) 4 4) R
  kR : R.map Cm.key = K4
  wR : ∀ c ∈ R, c.wf
  cS : SsP X (.slice (some ⟨gs, 0, none⟩) 4 4) S
  kS : S.map St.key = S4
  tF : Ts X (.slice (some ⟨gf, 0, none⟩) 1 1) my4.args
  p : CBlk X P #[.slice (some ⟨gr, 0, none⟩) 4 4, .slice (some ⟨gs, 0, none⟩) 4 4] 25
  q : CBlk X Q #[.int .i64 0, .int .i64 0, .string ⟨#[]⟩, .string ⟨#[109, 97, 121]⟩, .slice (some ⟨gf, 0, none⟩) 1 1] 30
  b : Below w.heap.size w X
theorem F4.later {w X X' : World} {gr gs gf P Q : Nat} {R : List Cm} {S : List St} (h : F4 w X gr gs gf P Q R S) (hb : Below X.heap.size X X') : F4 w X' gr gs gf P Q R S :=
  ⟨h.cR.later hb, h.kR, h.wR, h.cS.later hb, h.kS, h.tF.later hb, h.p.later hb, h.q.later hb, below_step h.b hb⟩
theorem f4_new {w w1 : World} {gr gs gf : Nat} {R : List Cm} {S : List St} (h1 : CsP w1 (.slice (some ⟨gr, 0, none⟩) 4 4) R) (h2 : R.map Cm.key = K4) (h3 : ∀ c ∈ R, c.wf) (h4 : SsP w1 (.slice (some ⟨gs, 0, none⟩) 4 4) S) (h5 : S.map St.key = S4) (h6 : Ts w1 (.slice (some ⟨gf, 0, none⟩) 1 1) my4.args) (hb : Below w.heap.size w w1) :
    F4 w ((w1.alloc (.cells #[.slice (some ⟨gr, 0, none⟩) 4 4, .slice (some ⟨gs, 0, none⟩) 4 4] 25)).alloc (.cells #[.int .i64 0, .int .i64 0, .string ⟨#[]⟩, .string ⟨#[109, 97, 121]⟩, .slice (some ⟨gf, 0, none⟩) 1 1] 30)) gr gs gf w1.heap.size (w1.heap.size + 1) R S := by
  have e1 : (w1.alloc (.cells #[.slice (some ⟨gr, 0, none⟩) 4 4, .slice (some ⟨gs, 0, none⟩) 4 4] 25)).heap.size = w1.heap.size + 1 := by simp
  have q := CBlk.new (w1.alloc (.cells #[.slice (some ⟨gr, 0, none⟩) 4 4, .slice (some ⟨gs, 0, none⟩) 4 4] 25)) #[.int .i64 0, .int .i64 0, .string ⟨#[]⟩, .string ⟨#[109, 97, 121]⟩, .slice (some ⟨gf, 0, none⟩) 1 1] 30
  rw [e1] at q
  have b1 := below1 w1 (.cells #[.slice (some ⟨gr, 0, none⟩) 4 4, .slice (some ⟨gs, 0, none⟩) 4 4] 25)
  have b2 := below1 (w1.alloc (.cells #[.slice (some ⟨gr, 0, none⟩) 4 4, .slice (some ⟨gs, 0, none⟩) 4 4] 25)) (.cells #[.int .i64 0, .int .i64 0, .string ⟨#[]⟩, .string ⟨#[109, 97, 121]⟩, .slice (some ⟨gf, 0, none⟩) 1 1] 30)
  have b := below_step b1 b2
  exact ⟨h1.later b, h2, h3, h4.later b, h5, h6.later b, (CBlk.new _ _ _).later b2, q, below_step hb b⟩
/-- And the facts that Conclude told: the second and the last. -/
structure F5 (w X : World) (gr gs gf P Q : Nat) (R : List Cm) (S : List St) (b o : Nat) (x1 x3 : Value) : Prop where
  f : F4 w X gr gs gf P Q R S
  t1 : Ts X x1 gd4.args
  t3 : Ts X x3 my4.args
  lb : b < X.heap.size
  a1 : X.cell? ⟨b, o + 5, none⟩ = some (.int .i64 0) ∧ X.cell? ⟨b, o + 6, none⟩ = some (.int .i64 0) ∧ X.cell? ⟨b, o + 7, none⟩ = some (.string ⟨#[]⟩) ∧ X.cell? ⟨b, o + 8, none⟩ = some (.string ⟨#[103, 111, 111, 100]⟩) ∧ X.cell? ⟨b, o + 9, none⟩ = some x1
  a3 : X.cell? ⟨b, o + 15, none⟩ = some (.int .i64 0) ∧ X.cell? ⟨b, o + 16, none⟩ = some (.int .i64 0) ∧ X.cell? ⟨b, o + 17, none⟩ = some (.string ⟨#[]⟩) ∧ X.cell? ⟨b, o + 18, none⟩ = some (.string ⟨#[109, 97, 121]⟩) ∧ X.cell? ⟨b, o + 19, none⟩ = some x3
theorem F5.later {w X X' : World} {gr gs gf P Q : Nat} {R : List Cm} {S : List St} {b o : Nat} {x1 x3 : Value} (h : F5 w X gr gs gf P Q R S b o x1 x3) (hb : Below X.heap.size X X') : F5 w X' gr gs gf P Q R S b o x1 x3 := by
  obtain ⟨p0, p1, p2, p3, p4⟩ := h.a1
  obtain ⟨q0, q1, q2, q3, q4⟩ := h.a3
  exact ⟨h.f.later hb, h.t1.later hb, h.t3.later hb, Nat.lt_of_lt_of_le h.lb hb.size, ⟨cell_step hb h.lb p0, cell_step hb h.lb p1, cell_step hb h.lb p2, cell_step hb h.lb p3, cell_step hb h.lb p4⟩, ⟨cell_step hb h.lb q0, cell_step hb h.lb q1, cell_step hb h.lb q2, cell_step hb h.lb q3, cell_step hb h.lb q4⟩⟩
theorem f5_new {w X X' : World} {gr gs gf P Q : Nat} {R : List Cm} {S : List St} (h : F4 w X gr gs gf P Q R S) {e : Ending} (hc : CPH X (conH (R.map Cm.key) (S.map St.key)) e X') : ∃ b o cap x1 x3, e = .returned (.tuple #[.slice (some ⟨b, o, none⟩) 4 cap, .int .i64 0]) ∧ F5 w X' gr gs gf P Q R S b o x1 x3 := by
  obtain ⟨hb, hc⟩ := hc
  rw [h.kR, h.kS, con4] at hc
  obtain ⟨v, FL, rfl, hA, hF⟩ := hc
  obtain ⟨x0, x1, x2, x3, rfl⟩ := fsts_four hF
  obtain ⟨a, cap, rfl, -, hm, ht⟩ := hA
  rcases hm with hm | ⟨b, o, rfl, hl, hm⟩
  · cases hm
  · refine ⟨b, o, cap, x1, x3, rfl, h.later hb, ht (gd4, x1) (by simp), ht (my4, x3) (by simp), hl, ?_, ?_⟩
    · exact hm 1 _ rfl
    · exact hm 3 _ rfl
theorem che_go {w X : World} {gr gs gf P Q : Nat} {R : List Cm} {S : List St} {l : List Cm} {lv fv : Value} {a : At} (h : F4 w X gr gs gf P Q R S) (hl : CsP X lv l) (hn : l.length ≤ 1000000000000) (ht : Ts X fv a.args) {r : Int} (hr : cheH (l.map Cm.key) K4 S4 a = r) :
    Calls Try.prog 5 #[lv, .agg #[.slice (some ⟨gr, 0, none⟩) 4 4, .slice (some ⟨gs, 0, none⟩) 4 4], a.v fv] X fun e w' => e = .returned (.int .i64 r) ∧ Below X.heap.size X w' := by
  have := check_whole l R S a lv _ _ fv X hl h.cR h.cS ht h.wR hn (by rw [ckey_len4 h.kR]; omega) (key_len4 h.kS)
  rwa [h.kR, h.kS, hr] at this
set_option maxRecDepth 20000 in
set_option maxHeartbeats 2000000 in
theorem first12_any (w : World) : Calls Try.prog 7 #[] w fun e w' => e = .returned (.bool true) ∧ Below w.heap.size w w' := by
  go_enter Try.func7, Try.ntmps7
  go_upto_region 2 with (go_at_call 4; refine (example_any _).mono ?_; rintro e w1 ⟨gr, R, gs, S, gf, rfl, hR, hRk, hRw, hS, hSk, hf, hb, -, -⟩; have HF := hm (f4_new hR hRk hRw hS hSk hf hb); clear hR hS hRk hRw hSk hf hb; simp only [At.v, my4])
  revert HF
  generalize (w1.alloc (.cells #[.slice (some ⟨gr, 0, none⟩) 4 4, .slice (some ⟨gs, 0, none⟩) 4 4] 25)).alloc (.cells #[.int .i64 0, .int .i64 0, .string ⟨#[]⟩, .string ⟨#[109, 97, 121]⟩, .slice (some ⟨gf, 0, none⟩) 1 1] 30) = X
  generalize w1.heap.size + 1 = Q
  generalize w1.heap.size = P
  intro HF
  obtain ⟨q0, q1⟩ := ctwo HF.out.p
  go_upto_region 3 with (go_at_call 9; refine (conclude_any R S _ _ _ HF.out.cR HF.out.cS HF.out.wR).mono ?_; rintro e w2 hc; obtain ⟨b, o, cap, x1, x3, rfl, hF⟩ := f5_new HF.out hc; have HG := hm hF; clear hc hF)
  clear HF q0 q1
  refine wp_region_held_drew (S := fun w' => F5 w w' gr gs gf P Q R S b o x1 x3) (by kernel_rfl) (HG.out.later (Below.refl _ _).drew) (fun hH => ?_)
  revert hH
  generalize w2.drew = V0
  intro hH
  refine wpAnyH_take (i := 0) (oi := ⟨_, _, _, _, _, _⟩) (v := .int .i64 0) rfl (by kernel_rfl) (by kernel_rfl) (by kernel_rfl) (fun _ _ _ h => h) (Or.inl ⟨by rfl, fun w' h => by clear h; go_simp⟩) hH ?_
  simp only [Act.put, List.setIfInBounds_toArray, List.set_cons_zero, List.set_cons_succ]
  refine wpAnyH_take (i := 1) (oi := ⟨_, _, _, _, _, _⟩) (v := .bool false) rfl (by kernel_rfl) (by kernel_rfl) (by kernel_rfl) (fun _ _ _ h => h) (Or.inl ⟨by rfl, fun w' h => by clear h; go_simp⟩) hH ?_
  simp only [Act.put, List.setIfInBounds_toArray, List.set_cons_zero, List.set_cons_succ]
  refine wpAnyH_take (i := 2) (oi := ⟨_, _, _, _, _, _⟩) (v := .bool false) rfl (by kernel_rfl) (by kernel_rfl) (by kernel_rfl) (fun _ _ _ h => h) (Or.inl ⟨by rfl, fun w' h => by clear h; go_simp⟩) hH ?_
  simp only [Act.put, List.setIfInBounds_toArray, List.set_cons_zero, List.set_cons_succ]
  refine wpAnyH_take (i := 3) (oi := ⟨_, _, _, _, _, _⟩) (v := .slice (some ⟨b, o, none⟩) 4 cap) rfl (by kernel_rfl) (by kernel_rfl) (by kernel_rfl) (fun _ _ _ h => h) (Or.inl ⟨by rfl, fun w' h => by clear h; go_simp⟩) hH ?_
  simp only [Act.put, List.setIfInBounds_toArray, List.set_cons_zero, List.set_cons_succ]
  refine wpAnyH_take (i := 4) (oi := ⟨_, _, _, _, _, _⟩) (v := .int .i64 4) rfl (by kernel_rfl) (by kernel_rfl) (by kernel_rfl) (fun _ _ _ h => h) (Or.inl ⟨by rfl, fun w' h => by clear h; go_simp⟩) hH ?_
  simp only [Act.put, List.setIfInBounds_toArray, List.set_cons_zero, List.set_cons_succ]
  refine wpAnyH_take (i := 5) (oi := ⟨_, _, _, _, _, _⟩) (v := .bool false) rfl (by kernel_rfl) (by kernel_rfl) (by kernel_rfl) (fun _ _ _ h => h) (Or.inl ⟨by rfl, fun w' h => by clear h; go_simp⟩) hH ?_
  simp only [Act.put, List.setIfInBounds_toArray, List.set_cons_zero, List.set_cons_succ]
  refine wpAnyH_take (i := 6) (oi := ⟨_, _, _, _, _, _⟩) (v := .bool false) rfl (by kernel_rfl) (by kernel_rfl) (by kernel_rfl) (fun _ _ _ h => h) (Or.inl ⟨by rfl, fun w' h => by clear h; go_simp⟩) hH ?_
  simp only [Act.put, List.setIfInBounds_toArray, List.set_cons_zero, List.set_cons_succ]
  refine wpAnyH_take (i := 7) (oi := ⟨_, _, _, _, _, _⟩) (v := .bool false) rfl (by kernel_rfl) (by kernel_rfl) (by kernel_rfl) (fun _ _ _ h => h) (Or.inl ⟨by rfl, fun w' h => by clear h; go_simp⟩) hH ?_
  simp only [Act.put, List.setIfInBounds_toArray, List.set_cons_zero, List.set_cons_succ]
  refine wpAnyH_take (i := 8) (oi := ⟨_, _, _, _, _, _⟩) (v := .slice (some ⟨b, o, none⟩) 4 cap) rfl (by kernel_rfl) (by kernel_rfl) (by kernel_rfl) (fun _ _ _ h => h) (Or.inl ⟨by rfl, fun w' h => by clear h; go_simp⟩) hH ?_
  simp only [Act.put, List.setIfInBounds_toArray, List.set_cons_zero, List.set_cons_succ]
  refine wpAnyH_take (i := 9) (oi := ⟨_, _, _, _, _, _⟩) (v := .pointer (some ⟨b, o + 15, none⟩)) rfl (by kernel_rfl) (by kernel_rfl) (by kernel_rfl) (fun _ _ _ h => h) (Or.inl ⟨by rfl, fun w' h => by clear h; go_simp⟩) hH ?_
  simp only [Act.put, List.setIfInBounds_toArray, List.set_cons_zero, List.set_cons_succ]
  refine wpAnyH_take (i := 10) (oi := ⟨_, _, _, _, _, _⟩) (v := .agg #[.int .i64 0, .int .i64 0, .string ⟨#[]⟩, .string ⟨#[109, 97, 121]⟩, x3]) rfl (by kernel_rfl) (by kernel_rfl) (by kernel_rfl) (fun _ _ _ h => h) (Or.inl ⟨by rfl, fun w' h => by obtain ⟨q0, q1, q2, q3, q4⟩ := h.a3; clear h; go_simp⟩) hH ?_
  simp only [Act.put, List.setIfInBounds_toArray, List.set_cons_zero, List.set_cons_succ]
  refine wpAnyH_take (i := 11) (oi := ⟨_, _, _, _, _, _⟩) (v := .agg #[.int .i64 0, .int .i64 0, .string ⟨#[]⟩, .string ⟨#[109, 97, 121]⟩, .slice (some ⟨gf, 0, none⟩) 1 1]) rfl (by kernel_rfl) (by kernel_rfl) (by kernel_rfl) (fun _ _ _ h => h) (Or.inl ⟨by rfl, fun w' h => by obtain ⟨q0, q1, q2, q3, q4⟩ := cfive h.f.q; clear h; go_simp⟩) hH ?_
  simp only [Act.put, List.setIfInBounds_toArray, List.set_cons_zero, List.set_cons_succ]
  refine wpAnyH_ready (rs := [12]) (by kernel_rfl) (by simp) ?_
  refine (AllReadyH.cons (o := ⟨_, _, _, _, _, _⟩) rfl (fun K hK => ?_) AllReadyH.nil)
  go_simp
  refine (sameAtom_any my4 my4 _ _ _ hH.t3 hH.f.tF).mono ?_
  rintro e V1 ⟨rfl, hb⟩
  rw [decide_eq_true rfl]
  refine hK.out _ _ (hH.later hb) (fun hH => ?_)
  clear hK K hb
  try simp only [Act.put, List.setIfInBounds_toArray, List.set_cons_zero, List.set_cons_succ]
  refine wpAnyH_take (i := 13) (oi := ⟨_, _, _, _, _, _⟩) (v := .bool false) rfl (by kernel_rfl) (by kernel_rfl) (by kernel_rfl) (fun _ _ _ h => h) (Or.inl ⟨by rfl, fun w' h => by clear h; go_simp⟩) hH ?_
  simp only [Act.put, List.setIfInBounds_toArray, List.set_cons_zero, List.set_cons_succ]
  refine wpAnyH_take (i := 14) (oi := ⟨_, _, _, _, _, _⟩) (v := .bool false) rfl (by kernel_rfl) (by kernel_rfl) (by kernel_rfl) (fun _ _ _ h => h) (Or.inl ⟨by rfl, fun w' h => by clear h; go_simp⟩) hH ?_
  simp only [Act.put, List.setIfInBounds_toArray, List.set_cons_zero, List.set_cons_succ]
  refine wpAnyH_done (by kernel_rfl) ?_ _
  go_upto_region 5 with fail
  have HG := hm hH
  clear hH
  refine wp_region_held_drew (S := fun w' => F5 w w' gr gs gf P Q R S b o x1 x3) (by kernel_rfl) (HG.out.later (Below.refl _ _).drew) (fun hH => ?_)
  revert hH
  generalize V1.drew = U0
  intro hH
  refine wpAnyH_take (i := 1) (oi := ⟨_, _, _, _, _, _⟩) (v := .agg #[.slice (some ⟨gr, 0, none⟩) 4 4, .slice (some ⟨gs, 0, none⟩) 4 4]) rfl (by kernel_rfl) (by kernel_rfl) (by kernel_rfl) (fun _ _ _ h => h) (Or.inl ⟨by rfl, fun w' h => by obtain ⟨q0, q1⟩ := ctwo h.f.p; clear h; go_simp⟩) hH ?_
  simp only [Act.put, List.setIfInBounds_toArray, List.set_cons_zero, List.set_cons_succ]
  refine wpAnyH_take (i := 2) (oi := ⟨_, _, _, _, _, _⟩) (v := .agg #[.int .i64 0, .int .i64 0, .string ⟨#[]⟩, .string ⟨#[109, 97, 121]⟩, .slice (some ⟨gf, 0, none⟩) 1 1]) rfl (by kernel_rfl) (by kernel_rfl) (by kernel_rfl) (fun _ _ _ h => h) (Or.inl ⟨by rfl, fun w' h => by obtain ⟨q0, q1, q2, q3, q4⟩ := cfive h.f.q; clear h; go_simp⟩) hH ?_
  simp only [Act.put, List.setIfInBounds_toArray, List.set_cons_zero, List.set_cons_succ]
  refine wpAnyH_ready (rs := [0]) (by kernel_rfl) (by simp) ?_
  refine (AllReadyH.cons (o := ⟨_, _, _, _, _, _⟩) rfl (fun K hK => ?_) AllReadyH.nil)
  go_simp
  refine (four_any _).mono ?_
  rintro e U1 ⟨g1, l1, rfl, hk, -, hky, hb⟩
  have HC1 := hm (hk _ (Nat.le_refl _) (fun _ _ _ => rfl))
  have HK1 := hm hky
  refine hK.out _ _ (hH.later hb) (fun hH => ?_)
  clear hK K hb hk hky
  try simp only [Act.put, List.setIfInBounds_toArray, List.set_cons_zero, List.set_cons_succ]
  refine wpAnyH_ready (rs := [3]) (by kernel_rfl) (by simp) ?_
  refine (AllReadyH.cons (o := ⟨_, _, _, _, _, _⟩) rfl (fun K hK => ?_) AllReadyH.nil)
  go_simp
  refine (che_go (a := my4) (r := 0) hH.f HC1.out (by rw [ckey_len4 HK1.out]; omega) hH.f.tF (by rw [HK1.out]; exact che4a)).mono ?_
  rintro e U2 ⟨rfl, hb⟩
  refine hK.out _ _ (hH.later hb) (fun hH => ?_)
  clear hK K hb
  try simp only [Act.put, List.setIfInBounds_toArray, List.set_cons_zero, List.set_cons_succ]
  clear HC1 HK1
  refine wpAnyH_take (i := 4) (oi := ⟨_, _, _, _, _, _⟩) (v := .bool true) rfl (by kernel_rfl) (by kernel_rfl) (by kernel_rfl) (fun _ _ _ h => h) (Or.inl ⟨by rfl, fun w' h => by clear h; go_simp⟩) hH ?_
  simp only [Act.put, List.setIfInBounds_toArray, List.set_cons_zero, List.set_cons_succ]
  refine wpAnyH_take (i := 5) (oi := ⟨_, _, _, _, _, _⟩) (v := .bool true) rfl (by kernel_rfl) (by kernel_rfl) (by kernel_rfl) (fun _ _ _ h => h) (Or.inl ⟨by rfl, fun w' h => by clear h; go_simp⟩) hH ?_
  simp only [Act.put, List.setIfInBounds_toArray, List.set_cons_zero, List.set_cons_succ]
  refine wpAnyH_take (i := 7) (oi := ⟨_, _, _, _, _, _⟩) (v := .agg #[.slice (some ⟨gr, 0, none⟩) 4 4, .slice (some ⟨gs, 0, none⟩) 4 4]) rfl (by kernel_rfl) (by kernel_rfl) (by kernel_rfl) (fun _ _ _ h => h) (Or.inl ⟨by rfl, fun w' h => by obtain ⟨q0, q1⟩ := ctwo h.f.p; clear h; go_simp⟩) hH ?_
  simp only [Act.put, List.setIfInBounds_toArray, List.set_cons_zero, List.set_cons_succ]
  refine wpAnyH_take (i := 8) (oi := ⟨_, _, _, _, _, _⟩) (v := .slice (some ⟨b, o, none⟩) 4 cap) rfl (by kernel_rfl) (by kernel_rfl) (by kernel_rfl) (fun _ _ _ h => h) (Or.inl ⟨by rfl, fun w' h => by clear h; go_simp⟩) hH ?_
  simp only [Act.put, List.setIfInBounds_toArray, List.set_cons_zero, List.set_cons_succ]
  refine wpAnyH_take (i := 9) (oi := ⟨_, _, _, _, _, _⟩) (v := .pointer (some ⟨b, o + 5, none⟩)) rfl (by kernel_rfl) (by kernel_rfl) (by kernel_rfl) (fun _ _ _ h => h) (Or.inl ⟨by rfl, fun w' h => by clear h; go_simp⟩) hH ?_
  simp only [Act.put, List.setIfInBounds_toArray, List.set_cons_zero, List.set_cons_succ]
  refine wpAnyH_take (i := 10) (oi := ⟨_, _, _, _, _, _⟩) (v := .agg #[.int .i64 0, .int .i64 0, .string ⟨#[]⟩, .string ⟨#[103, 111, 111, 100]⟩, x1]) rfl (by kernel_rfl) (by kernel_rfl) (by kernel_rfl) (fun _ _ _ h => h) (Or.inl ⟨by rfl, fun w' h => by obtain ⟨q0, q1, q2, q3, q4⟩ := h.a1; clear h; go_simp⟩) hH ?_
  simp only [Act.put, List.setIfInBounds_toArray, List.set_cons_zero, List.set_cons_succ]
  refine wpAnyH_ready (rs := [6]) (by kernel_rfl) (by simp) ?_
  refine (AllReadyH.cons (o := ⟨_, _, _, _, _, _⟩) rfl (fun K hK => ?_) AllReadyH.nil)
  go_simp
  refine (four_any _).mono ?_
  rintro e U3 ⟨g2, l2, rfl, hk, -, hky, hb⟩
  have HC2 := hm (hk _ (Nat.le_refl _) (fun _ _ _ => rfl))
  have HK2 := hm hky
  refine hK.out _ _ (hH.later hb) (fun hH => ?_)
  clear hK K hb hk hky
  try simp only [Act.put, List.setIfInBounds_toArray, List.set_cons_zero, List.set_cons_succ]
  refine wpAnyH_ready (rs := [11]) (by kernel_rfl) (by simp) ?_
  refine (AllReadyH.cons (o := ⟨_, _, _, _, _, _⟩) rfl (fun K hK => ?_) AllReadyH.nil)
  go_simp
  refine (che_go (a := gd4) (r := 128) hH.f HC2.out (by rw [ckey_len4 HK2.out]; omega) hH.t1 (by rw [HK2.out]; exact che4b)).mono ?_
  rintro e U4 ⟨rfl, hb⟩
  refine hK.out _ _ (hH.later hb) (fun hH => ?_)
  clear hK K hb
  try simp only [Act.put, List.setIfInBounds_toArray, List.set_cons_zero, List.set_cons_succ]
  clear HC2 HK2
  refine wpAnyH_take (i := 12) (oi := ⟨_, _, _, _, _, _⟩) (v := .bool true) rfl (by kernel_rfl) (by kernel_rfl) (by kernel_rfl) (fun _ _ _ h => h) (Or.inl ⟨by rfl, fun w' h => by clear h; go_simp⟩) hH ?_
  simp only [Act.put, List.setIfInBounds_toArray, List.set_cons_zero, List.set_cons_succ]
  refine wpAnyH_take (i := 13) (oi := ⟨_, _, _, _, _, _⟩) (v := .bool true) rfl (by kernel_rfl) (by kernel_rfl) (by kernel_rfl) (fun _ _ _ h => h) (Or.inl ⟨by rfl, fun w' h => by clear h; go_simp⟩) hH ?_
  simp only [Act.put, List.setIfInBounds_toArray, List.set_cons_zero, List.set_cons_succ]
  refine wpAnyH_take (i := 14) (oi := ⟨_, _, _, _, _, _⟩) (v := .bool true) rfl (by kernel_rfl) (by kernel_rfl) (by kernel_rfl) (fun _ _ _ h => h) (Or.inl ⟨by rfl, fun w' h => by clear h; go_simp⟩) hH ?_
  simp only [Act.put, List.setIfInBounds_toArray, List.set_cons_zero, List.set_cons_succ]
  refine wpAnyH_take (i := 17) (oi := ⟨_, _, _, _, _, _⟩) (v := .agg #[.slice (some ⟨gr, 0, none⟩) 4 4, .slice (some ⟨gs, 0, none⟩) 4 4]) rfl (by kernel_rfl) (by kernel_rfl) (by kernel_rfl) (fun _ _ _ h => h) (Or.inl ⟨by rfl, fun w' h => by obtain ⟨q0, q1⟩ := ctwo h.f.p; clear h; go_simp⟩) hH ?_
  simp only [Act.put, List.setIfInBounds_toArray, List.set_cons_zero, List.set_cons_succ]
  refine wpAnyH_take (i := 18) (oi := ⟨_, _, _, _, _, _⟩) (v := .agg #[.int .i64 0, .int .i64 0, .string ⟨#[]⟩, .string ⟨#[109, 97, 121]⟩, .slice (some ⟨gf, 0, none⟩) 1 1]) rfl (by kernel_rfl) (by kernel_rfl) (by kernel_rfl) (fun _ _ _ h => h) (Or.inl ⟨by rfl, fun w' h => by obtain ⟨q0, q1, q2, q3, q4⟩ := cfive h.f.q; clear h; go_simp⟩) hH ?_
  simp only [Act.put, List.setIfInBounds_toArray, List.set_cons_zero, List.set_cons_succ]
  refine wpAnyH_ready (rs := [15]) (by kernel_rfl) (by simp) ?_
  refine (AllReadyH.cons (o := ⟨_, _, _, _, _, _⟩) rfl (fun K hK => ?_) AllReadyH.nil)
  go_simp
  refine (four_any _).mono ?_
  rintro e U5 ⟨g3, l3, rfl, hk, -, hky, hb⟩
  have HC3 := hm (hk _ (Nat.le_refl _) (fun _ _ _ => rfl))
  have HK3 := hm hky
  refine hK.out _ _ (hH.later hb) (fun hH => ?_)
  clear hK K hb hk hky
  try simp only [Act.put, List.setIfInBounds_toArray, List.set_cons_zero, List.set_cons_succ]
  refine wpAnyH_take (i := 16) (oi := ⟨_, _, _, _, _, _⟩) (v := .slice (some ⟨g3, 0, none⟩) 3 4) rfl (by kernel_rfl) (by kernel_rfl) (by kernel_rfl) (fun _ _ _ h => h) (Or.inl ⟨by rfl, fun w' h => by clear h; go_simp⟩) hH ?_
  simp only [Act.put, List.setIfInBounds_toArray, List.set_cons_zero, List.set_cons_succ]
  refine wpAnyH_ready (rs := [19]) (by kernel_rfl) (by simp) ?_
  refine (AllReadyH.cons (o := ⟨_, _, _, _, _, _⟩) rfl (fun K hK => ?_) AllReadyH.nil)
  go_simp
  refine (che_go (a := my4) (r := 127) hH.f (HC3.out.take3 (ckey_len4 HK3.out)) (by rw [List.length_take, ckey_len4 HK3.out]; omega) hH.f.tF (by rw [List.map_take, HK3.out]; exact che4c)).mono ?_
  rintro e U6 ⟨rfl, hb⟩
  refine hK.out _ _ (hH.later hb) (fun hH => ?_)
  clear hK K hb
  try simp only [Act.put, List.setIfInBounds_toArray, List.set_cons_zero, List.set_cons_succ]
  refine wpAnyH_take (i := 20) (oi := ⟨_, _, _, _, _, _⟩) (v := .bool true) rfl (by kernel_rfl) (by kernel_rfl) (by kernel_rfl) (fun _ _ _ h => h) (Or.inl ⟨by rfl, fun w' h => by clear h; go_simp⟩) hH ?_
  simp only [Act.put, List.setIfInBounds_toArray, List.set_cons_zero, List.set_cons_succ]
  refine wpAnyH_take (i := 21) (oi := ⟨_, _, _, _, _, _⟩) (v := .bool true) rfl (by kernel_rfl) (by kernel_rfl) (by kernel_rfl) (fun _ _ _ h => h) (Or.inl ⟨by rfl, fun w' h => by clear h; go_simp⟩) hH ?_
  simp only [Act.put, List.setIfInBounds_toArray, List.set_cons_zero, List.set_cons_succ]
  refine wpAnyH_take (i := 22) (oi := ⟨_, _, _, _, _, _⟩) (v := .bool true) rfl (by kernel_rfl) (by kernel_rfl) (by kernel_rfl) (fun _ _ _ h => h) (Or.inl ⟨by rfl, fun w' h => by clear h; go_simp⟩) hH ?_
  simp only [Act.put, List.setIfInBounds_toArray, List.set_cons_zero]
  refine wpAnyH_done (by kernel_rfl) ?_ _
  go_wp2_with fail
  exact bodyPost_ret (v := .bool true) (by simp [results, Try.results7, go_sem]) rfl ⟨rfl, hH.f.b⟩
end Go.Proofs.Ytbhdalchnbfohaa
