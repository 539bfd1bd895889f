import Derived.Test.YtnikmcmkbjjcdaaGreatDoorCL11
import Derived.Laws.EntriesVeiled
import Derived.Test.YtnikmcmkbjjcdaaGreatDoorD1
import Derived.Test.YtnikmcmkbjjcdaaGreatDoorW2
import Derived.Deep.CutRange
import Derived.Test.YtnikmcmkbjjcdaaGreatDoorCL2
import Derived.Deep.RegionHeld3
import Derived.BigQuiet
/-
  Check. (Written by CL12.py.)
-/
namespace Go.Proofs.YtnikmcmkbjjcdaaGreatDoor
open Go.RowKit Go.Shelf

/-- The first that refuses. -/
def chkL : List (Bool × Int) → Int
  | [] => 0
  | x :: r => if x.1 = true then x.2 else chkL r
def Cm.rs (c : Cm) : List (Bool × Int) := [(long c, 31), (decide (aErr c.atoms = 21), 21), (decide (aErr c.atoms = 22), 22), (decide (aErr c.atoms = 23), 23), (decide (aErr c.atoms = 24), 24), (badT c, 32), (c.head.1.by_.var, 33), (unb c, 34), (mis 0 c.vars, 35)]
def Cm.chk (c : Cm) : Int := chkL c.rs
/-- All its numbers are such, and there aren't more terms than there can be. -/
structure Cm.wf (c : Cm) : Prop where
  n : ∀ t ∈ c.terms, t.var = true → (Lit.int .i64 t.n).wf = true
  l : c.terms.length < 4000000000000000000
theorem mem_vrs {l : List Tm} {v : Int} (h : v ∈ vrs l) : ∃ t ∈ l, t.var = true ∧ t.n = v := by
  unfold vrs at h
  obtain ⟨t, ht, rfl⟩ := List.mem_map.1 h
  obtain ⟨h1, h2⟩ := List.mem_filter.1 ht
  exact ⟨t, h1, h2, rfl⟩
theorem vrs_len (l : List Tm) : (vrs l).length ≤ l.length := by
  unfold vrs; rw [List.length_map]; exact List.length_filter_le _ _
theorem bodyC_terms (c : Cm) : c.bodyC.terms = ⟨0, 0, ⟨#[]⟩⟩ :: flt c.body := by
  simp [Cm.terms, Cm.bodyC, Cm.atoms, At.pl, flt]
theorem restC_terms (c : Cm) : c.restC.terms = c.head.1.pl ++ tls c.tests := by
  simp [Cm.terms, Cm.restC, Cm.atoms, At.pl, tls]
theorem Cm.terms_eq (c : Cm) : c.terms = c.head.1.pl ++ flt c.body ++ tls c.tests := by
  simp [Cm.terms, Cm.atoms, flt, tls]
theorem zt_var : (Tm.mk 0 0 ⟨#[]⟩).var = false := by simp [Tm.var]
theorem Cm.wf.vars {c : Cm} (h : c.wf) : (∀ v ∈ c.vars, (Lit.int .i64 v).wf = true) ∧ c.vars.length < 4000000000000000000 :=
  ⟨fun v hv => by obtain ⟨t, ht, hvt, rfl⟩ := mem_vrs (l := c.terms) hv; exact h.n t ht hvt, Nat.lt_of_le_of_lt (vrs_len c.terms) h.l⟩
theorem Cm.wf.bodyV {c : Cm} (h : c.wf) : (∀ v ∈ c.bodyC.vars, (Lit.int .i64 v).wf = true) ∧ c.bodyC.vars.length < 4000000000000000000 := by
  refine ⟨fun v hv => ?_, ?_⟩
  · obtain ⟨t, ht, hvt, rfl⟩ := mem_vrs (l := c.bodyC.terms) hv
    rw [bodyC_terms] at ht
    rcases List.mem_cons.1 ht with rfl | ht
    · rw [zt_var] at hvt; cases hvt
    · exact h.n t (by rw [Cm.terms_eq]; simp [ht]) hvt
  · have e : c.bodyC.vars = vrs (flt c.body) := by
      show vrs c.bodyC.terms = _
      rw [bodyC_terms]; simp [vrs, zt_var]
    rw [e]
    have h1 := vrs_len (flt c.body)
    have h2 := h.l
    rw [Cm.terms_eq] at h2
    simp only [List.length_append] at h2
    omega
theorem Cm.wf.restV {c : Cm} (h : c.wf) : ∀ v ∈ c.restC.vars, (Lit.int .i64 v).wf = true := by
  intro v hv
  obtain ⟨t, ht, hvt, rfl⟩ := mem_vrs (l := c.restC.terms) hv
  rw [restC_terms] at ht
  refine h.n t ?_ hvt
  rw [Cm.terms_eq]
  rcases List.mem_append.1 ht with ht | ht <;> simp [ht]
theorem two_at {w : World} {T : Nat} {c : Array Value} {t : TypeId} (h : CBlk w T c t) (i : Nat) (x y : Value) (hx : c[i]? = some x) (hy : c[i + 1]? = some y) : w.cell? ⟨T, i, none⟩ = some x ∧ w.cell? ⟨T, i + 1, none⟩ = some y := by
  constructor
  · rw [cell_of_row _ _ _ _ _ _ h]; exact hx
  · rw [cell_of_row _ _ _ _ _ _ h]; exact hy
set_option maxRecDepth 20000 in
set_option maxHeartbeats 8000000 in
theorem check9_any (c : Cm) (w : World) (h : c.ok w) (hwf : c.wf) : Calls Tryz.prog 17 #[c.v] w fun e w' => e = .returned (.int .i64 c.chk) ∧ Below w.heap.size w w' := by
  obtain ⟨⟨a, hn, cap, h1⟩, ⟨a', cap', h2⟩, ⟨a'', cap'', h3⟩, hbl, htl⟩ := h.shape
  obtain ⟨hwv, hlv⟩ := hwf.vars
  obtain ⟨hwb, hlb⟩ := hwf.bodyV
  have hwr := hwf.restV
  have hok := fun (X : World) (hX : Below w.heap.size w X) => h.later hX
  have b0 := CBlk.new w c.cs 37
  have z0 : (w.alloc (.cells c.cs 37)).heap.size = w.heap.size + 1 := by simp
  have hb0 := below1 w (.cells c.cs 37)
  obtain ⟨W0, hW0⟩ : ∃ W0, w.alloc (.cells c.cs 37) = W0 := ⟨_, rfl⟩
  rw [hW0] at b0 z0 hb0
  have hch := checks_any W0
  -- the boxes of the four errors, and the table
  have g0 : CBlk (chW W0) W0.heap.size #[.int .i64 21] 24 := ((((CBlk.new W0 _ _).later (below1 _ _)).later (below1 _ _)).later (below1 _ _)).later (below1 _ _)
  have g1 : CBlk (chW W0) (W0.heap.size + 1) #[.int .i64 22] 24 := by
    have := (((CBlk.new (W0.alloc (.cells #[.int .i64 21] 24)) #[.int .i64 22] 24).later (below1 _ (.cells #[.int .i64 23] 24))).later (below1 _ (.cells #[.int .i64 24] 24))).later (below1 _ (.cells (tbl W0.heap.size) 88))
    simpa using this
  have g2 : CBlk (chW W0) (W0.heap.size + 1 + 1) #[.int .i64 23] 24 := by
    have := ((CBlk.new ((W0.alloc (.cells #[.int .i64 21] 24)).alloc (.cells #[.int .i64 22] 24)) #[.int .i64 23] 24).later (below1 _ (.cells #[.int .i64 24] 24))).later (below1 _ (.cells (tbl W0.heap.size) 88))
    simpa using this
  have g3 : CBlk (chW W0) (W0.heap.size + 1 + 1 + 1) #[.int .i64 24] 24 := by
    have := (CBlk.new (((W0.alloc (.cells #[.int .i64 21] 24)).alloc (.cells #[.int .i64 22] 24)).alloc (.cells #[.int .i64 23] 24)) #[.int .i64 24] 24).later (below1 _ (.cells (tbl W0.heap.size) 88))
    simpa using this
  have g4 : CBlk (chW W0) (W0.heap.size + 1 + 1 + 1 + 1) (tbl W0.heap.size) 88 := by
    have := CBlk.new ((((W0.alloc (.cells #[.int .i64 21] 24)).alloc (.cells #[.int .i64 22] 24)).alloc (.cells #[.int .i64 23] 24)).alloc (.cells #[.int .i64 24] 24)) (tbl W0.heap.size) 88
    simpa using this
  have hbC : Below W0.heap.size W0 (chW W0) := by
    refine ⟨rfl, rfl, rfl, by simp; omega, fun q hq => ?_⟩
    exact (((Below.heap_alloc _ _ _ (by simp; omega)).trans (Below.heap_alloc _ _ _ (by simp; omega))).trans (Below.heap_alloc _ _ _ (by simp; omega))).trans ((Below.heap_alloc _ _ _ (by simp; omega)).trans (Below.heap_alloc _ _ _ (by omega)))
  have b1 := b0.later hbC
  have hbw := below_step hb0 hbC
  obtain ⟨W1, hW1⟩ : ∃ W1, chW W0 = W1 := ⟨_, rfl⟩
  rw [hW1] at hch g0 g1 g2 g3 g4 b1 hbw
  obtain ⟨N, hN⟩ : ∃ N, W0.heap.size = N := ⟨_, rfl⟩
  rw [hN] at hch g0 g1 g2 g3 g4
  have HE0 : Hid (CBlk W1 N #[.int .i64 21] 24) := g0
  have HE1 : Hid (CBlk W1 (N + 1) #[.int .i64 22] 24) := g1
  have HE2 : Hid (CBlk W1 (N + 1 + 1) #[.int .i64 23] 24) := g2
  have HE3 : Hid (CBlk W1 (N + 1 + 1 + 1) #[.int .i64 24] 24) := g3
  have HTb : Hid (CBlk W1 (N + 1 + 1 + 1 + 1) (tbl N) 88) := g4
  have HC : Hid (CBlk W1 w.heap.size c.cs 37) := b1
  have HBW : Hid (Below w.heap.size w W1) := hbw
  have hok1 := fun (X : World) (hX : Below W1.heap.size W1 X) => hok X (below_step hbw hX)
  clear hok
  have hok := hok1
  have k0 := fun (X : World) (hX : Below W1.heap.size W1 X) => tooLong_any _ X (hok X hX)
  have k1 := fun (X : World) (hX : Below W1.heap.size W1 X) => wrongAtom1_any _ _ _ X (hok X hX) (HE0.out.later hX)
  have k2 := fun (X : World) (hX : Below W1.heap.size W1 X) => wrongAtom1_any _ _ _ X (hok X hX) (HE1.out.later hX)
  have k3 := fun (X : World) (hX : Below W1.heap.size W1 X) => wrongAtom1_any _ _ _ X (hok X hX) (HE2.out.later hX)
  have k4 := fun (X : World) (hX : Below W1.heap.size W1 X) => wrongAtom1_any _ _ _ X (hok X hX) (HE3.out.later hX)
  have k5 := fun (X : World) (hX : Below W1.heap.size W1 X) => wrongTest_any _ X (hok X hX)
  have k6 := fun (X : World) (hX : Below W1.heap.size W1 X) => speaks_any _ X (hok X hX)
  have k7 := fun (X : World) (hX : Below W1.heap.size W1 X) => unbound_any _ X (hok X hX) hwb hwr hlb
  have k8 := fun (X : World) (hX : Below W1.heap.size W1 X) => misnumbered_any _ X (hok X hX) hlv
  unfold Cm.chk Cm.rs
  obtain ⟨r0, hr0⟩ : ∃ r, long c = r := ⟨_, rfl⟩
  simp only [hr0] at k0 ⊢
  clear hr0
  obtain ⟨r1, hr1⟩ : ∃ r, decide (aErr c.atoms = 21) = r := ⟨_, rfl⟩
  simp only [hr1] at k1 ⊢
  clear hr1
  obtain ⟨r2, hr2⟩ : ∃ r, decide (aErr c.atoms = 22) = r := ⟨_, rfl⟩
  simp only [hr2] at k2 ⊢
  clear hr2
  obtain ⟨r3, hr3⟩ : ∃ r, decide (aErr c.atoms = 23) = r := ⟨_, rfl⟩
  simp only [hr3] at k3 ⊢
  clear hr3
  obtain ⟨r4, hr4⟩ : ∃ r, decide (aErr c.atoms = 24) = r := ⟨_, rfl⟩
  simp only [hr4] at k4 ⊢
  clear hr4
  obtain ⟨r5, hr5⟩ : ∃ r, badT c = r := ⟨_, rfl⟩
  simp only [hr5] at k5 ⊢
  clear hr5
  obtain ⟨r6, hr6⟩ : ∃ r, c.head.1.by_.var = r := ⟨_, rfl⟩
  simp only [hr6] at k6 ⊢
  clear hr6
  obtain ⟨r7, hr7⟩ : ∃ r, unb c = r := ⟨_, rfl⟩
  simp only [hr7] at k7 ⊢
  clear hr7
  obtain ⟨r8, hr8⟩ : ∃ r, mis 0 c.vars = r := ⟨_, rfl⟩
  simp only [hr8] at k8 ⊢
  clear hr8
  obtain ⟨R, hR⟩ : ∃ R, chkL [(r0, 31), (r1, 21), (r2, 22), (r3, 23), (r4, 24), (r5, 32), (r6, 33), (r7, 34), (r8, 35)] = R := ⟨_, rfl⟩
  have HR : Hid (chkL [(r0, 31), (r1, 21), (r2, 22), (r3, 23), (r4, 24), (r5, 32), (r6, 33), (r7, 34), (r8, 35)] = R) := hR
  rw [hR]
  clear hR hok hok1 hwv hwb hwr hlv hlb g0 g1 g2 g3 g4 b0 b1 hb0 hbC hbw hwf h hW1 hN z0
  obtain ⟨⟨⟨⟨k, m, s⟩, nm, ls⟩, hx⟩, body, bv, tests, tv⟩ := c
  simp only at h1 h2 h3 hbl htl
  subst h1 h2 h3
  go_enter Tryz.func17, Tryz.ntmps17
  go_wp2_with (go_at_call 34; refine hch.mono ?_; clear hch; rintro e w1 ⟨rfl, h⟩; have h' := h.symm; clear h; subst h')
  clear hW0
  go_loopg [7, 4] 9 (fun g i _ wr => ∃ j : Nat, j + g = 9 ∧ i = .int .i64 (j : Int) ∧ chkL (List.drop j [(r0, 31), (r1, 21), (r2, 22), (r3, 23), (r4, 24), (r5, 32), (r6, 33), (r7, 34), (r8, 35)]) = R ∧ Below W1.heap.size W1 wr)
  case atStart => exact ⟨0, by omega, rfl, HR.out, Below.refl _ _⟩
  case round =>
    obtain ⟨j, hj, rfl, hr, hbr⟩ := hrel
    have HBr : Hid (Below W1.heap.size W1 wr) := hbr
    obtain ⟨c0, c1, c2, c3, c4, c5, c6⟩ := cseven (HC.out.later hbr)
    simp only at c0 c1 c2 c3 c4 c5 c6
    have hcb := HTb.out.later hbr
    have hzw : w.heap.size < wr.heap.size := (HC.out.later hbr).lt
    clear HR
    rcases (show j = 0 ∨ j = 1 ∨ j = 2 ∨ j = 3 ∨ j = 4 ∨ j = 5 ∨ j = 6 ∨ j = 7 ∨ j = 8 ∨ j = 9 by omega) with rfl | rfl | rfl | rfl | rfl | rfl | rfl | rfl | rfl | rfl
    · obtain ⟨gk, rfl⟩ : ∃ g, gk = g + 1 := ⟨gk - 1, by omega⟩
      obtain ⟨d0, d1⟩ := two_at hcb 0 (.func (.func 60) #[] #[]) (.int .i64 31) rfl rfl
      have hk := k0
      clear hcb hbr
      cases r0 with
      | true =>
        have HR : Hid (31 = R) := hr
        clear hr
        go_wp2_with (go_at_call 60; refine (hk _ (below_step HBr.out (below1 _ _))).mono ?_; clear hk; rintro e w3 ⟨rfl, hb3⟩; obtain ⟨q0, q1⟩ := two_at ((CBlk.new wr #[.func (.func 60) #[] #[], .int .i64 31] 88).later hb3) 0 _ _ rfl rfl; have HB3 : Hid (Below _ _ _) := hb3; clear hb3)
        go_ret
        exact ⟨ret_i HR.out, below_step (below_step (below_step HBW.out HBr.out) (below1 _ _)) HB3.out⟩
      | false =>
        have HR : Hid (chkL (List.drop 1 [(false, 31), (r1, 21), (r2, 22), (r3, 23), (r4, 24), (r5, 32), (r6, 33), (r7, 34), (r8, 35)]) = R) := hr
        clear hr
        go_wp2_with (go_at_call 60; refine (hk _ (below_step HBr.out (below1 _ _))).mono ?_; clear hk; rintro e w3 ⟨rfl, hb3⟩; have HB3 : Hid (Below _ _ _) := hb3; clear hb3)
        go_roundg gk
        case measure => omega
        case rel => exact ⟨1, by omega, rfl, HR.out, below_step (below_step HBr.out (below1 _ _)) HB3.out⟩
    · obtain ⟨gk, rfl⟩ : ∃ g, gk = g + 1 := ⟨gk - 1, by omega⟩
      obtain ⟨d0, d1⟩ := two_at hcb 2 (.func (.func 88) #[] #[.pointer (some ⟨N, 0, none⟩)]) (.int .i64 21) rfl rfl
      have hk := k1
      clear hcb hbr
      cases r1 with
      | true =>
        have HR : Hid (21 = R) := hr
        clear hr
        go_wp2_with (go_at_call 88; refine (hk _ (below_step HBr.out (below1 _ _))).mono ?_; clear hk; rintro e w3 ⟨rfl, hb3⟩; obtain ⟨q0, q1⟩ := two_at ((CBlk.new wr #[.func (.func 88) #[] #[.pointer (some ⟨N, 0, none⟩)], .int .i64 21] 88).later hb3) 0 _ _ rfl rfl; have HB3 : Hid (Below _ _ _) := hb3; clear hb3)
        go_ret
        exact ⟨ret_i HR.out, below_step (below_step (below_step HBW.out HBr.out) (below1 _ _)) HB3.out⟩
      | false =>
        have HR : Hid (chkL (List.drop 2 [(r0, 31), (false, 21), (r2, 22), (r3, 23), (r4, 24), (r5, 32), (r6, 33), (r7, 34), (r8, 35)]) = R) := hr
        clear hr
        go_wp2_with (go_at_call 88; refine (hk _ (below_step HBr.out (below1 _ _))).mono ?_; clear hk; rintro e w3 ⟨rfl, hb3⟩; have HB3 : Hid (Below _ _ _) := hb3; clear hb3)
        go_roundg gk
        case measure => omega
        case rel => exact ⟨2, by omega, rfl, HR.out, below_step (below_step HBr.out (below1 _ _)) HB3.out⟩
    · obtain ⟨gk, rfl⟩ : ∃ g, gk = g + 1 := ⟨gk - 1, by omega⟩
      obtain ⟨d0, d1⟩ := two_at hcb 4 (.func (.func 88) #[] #[.pointer (some ⟨N + 1, 0, none⟩)]) (.int .i64 22) rfl rfl
      have hk := k2
      clear hcb hbr
      cases r2 with
      | true =>
        have HR : Hid (22 = R) := hr
        clear hr
        go_wp2_with (go_at_call 88; refine (hk _ (below_step HBr.out (below1 _ _))).mono ?_; clear hk; rintro e w3 ⟨rfl, hb3⟩; obtain ⟨q0, q1⟩ := two_at ((CBlk.new wr #[.func (.func 88) #[] #[.pointer (some ⟨N + 1, 0, none⟩)], .int .i64 22] 88).later hb3) 0 _ _ rfl rfl; have HB3 : Hid (Below _ _ _) := hb3; clear hb3)
        go_ret
        exact ⟨ret_i HR.out, below_step (below_step (below_step HBW.out HBr.out) (below1 _ _)) HB3.out⟩
      | false =>
        have HR : Hid (chkL (List.drop 3 [(r0, 31), (r1, 21), (false, 22), (r3, 23), (r4, 24), (r5, 32), (r6, 33), (r7, 34), (r8, 35)]) = R) := hr
        clear hr
        go_wp2_with (go_at_call 88; refine (hk _ (below_step HBr.out (below1 _ _))).mono ?_; clear hk; rintro e w3 ⟨rfl, hb3⟩; have HB3 : Hid (Below _ _ _) := hb3; clear hb3)
        go_roundg gk
        case measure => omega
        case rel => exact ⟨3, by omega, rfl, HR.out, below_step (below_step HBr.out (below1 _ _)) HB3.out⟩
    · obtain ⟨gk, rfl⟩ : ∃ g, gk = g + 1 := ⟨gk - 1, by omega⟩
      obtain ⟨d0, d1⟩ := two_at hcb 6 (.func (.func 88) #[] #[.pointer (some ⟨N + 1 + 1, 0, none⟩)]) (.int .i64 23) rfl rfl
      have hk := k3
      clear hcb hbr
      cases r3 with
      | true =>
        have HR : Hid (23 = R) := hr
        clear hr
        go_wp2_with (go_at_call 88; refine (hk _ (below_step HBr.out (below1 _ _))).mono ?_; clear hk; rintro e w3 ⟨rfl, hb3⟩; obtain ⟨q0, q1⟩ := two_at ((CBlk.new wr #[.func (.func 88) #[] #[.pointer (some ⟨N + 1 + 1, 0, none⟩)], .int .i64 23] 88).later hb3) 0 _ _ rfl rfl; have HB3 : Hid (Below _ _ _) := hb3; clear hb3)
        go_ret
        exact ⟨ret_i HR.out, below_step (below_step (below_step HBW.out HBr.out) (below1 _ _)) HB3.out⟩
      | false =>
        have HR : Hid (chkL (List.drop 4 [(r0, 31), (r1, 21), (r2, 22), (false, 23), (r4, 24), (r5, 32), (r6, 33), (r7, 34), (r8, 35)]) = R) := hr
        clear hr
        go_wp2_with (go_at_call 88; refine (hk _ (below_step HBr.out (below1 _ _))).mono ?_; clear hk; rintro e w3 ⟨rfl, hb3⟩; have HB3 : Hid (Below _ _ _) := hb3; clear hb3)
        go_roundg gk
        case measure => omega
        case rel => exact ⟨4, by omega, rfl, HR.out, below_step (below_step HBr.out (below1 _ _)) HB3.out⟩
    · obtain ⟨gk, rfl⟩ : ∃ g, gk = g + 1 := ⟨gk - 1, by omega⟩
      obtain ⟨d0, d1⟩ := two_at hcb 8 (.func (.func 88) #[] #[.pointer (some ⟨N + 1 + 1 + 1, 0, none⟩)]) (.int .i64 24) rfl rfl
      have hk := k4
      clear hcb hbr
      cases r4 with
      | true =>
        have HR : Hid (24 = R) := hr
        clear hr
        go_wp2_with (go_at_call 88; refine (hk _ (below_step HBr.out (below1 _ _))).mono ?_; clear hk; rintro e w3 ⟨rfl, hb3⟩; obtain ⟨q0, q1⟩ := two_at ((CBlk.new wr #[.func (.func 88) #[] #[.pointer (some ⟨N + 1 + 1 + 1, 0, none⟩)], .int .i64 24] 88).later hb3) 0 _ _ rfl rfl; have HB3 : Hid (Below _ _ _) := hb3; clear hb3)
        go_ret
        exact ⟨ret_i HR.out, below_step (below_step (below_step HBW.out HBr.out) (below1 _ _)) HB3.out⟩
      | false =>
        have HR : Hid (chkL (List.drop 5 [(r0, 31), (r1, 21), (r2, 22), (r3, 23), (false, 24), (r5, 32), (r6, 33), (r7, 34), (r8, 35)]) = R) := hr
        clear hr
        go_wp2_with (go_at_call 88; refine (hk _ (below_step HBr.out (below1 _ _))).mono ?_; clear hk; rintro e w3 ⟨rfl, hb3⟩; have HB3 : Hid (Below _ _ _) := hb3; clear hb3)
        go_roundg gk
        case measure => omega
        case rel => exact ⟨5, by omega, rfl, HR.out, below_step (below_step HBr.out (below1 _ _)) HB3.out⟩
    · obtain ⟨gk, rfl⟩ : ∃ g, gk = g + 1 := ⟨gk - 1, by omega⟩
      obtain ⟨d0, d1⟩ := two_at hcb 10 (.func (.func 62) #[] #[]) (.int .i64 32) rfl rfl
      have hk := k5
      clear hcb hbr
      cases r5 with
      | true =>
        have HR : Hid (32 = R) := hr
        clear hr
        go_wp2_with (go_at_call 62; refine (hk _ (below_step HBr.out (below1 _ _))).mono ?_; clear hk; rintro e w3 ⟨rfl, hb3⟩; obtain ⟨q0, q1⟩ := two_at ((CBlk.new wr #[.func (.func 62) #[] #[], .int .i64 32] 88).later hb3) 0 _ _ rfl rfl; have HB3 : Hid (Below _ _ _) := hb3; clear hb3)
        go_ret
        exact ⟨ret_i HR.out, below_step (below_step (below_step HBW.out HBr.out) (below1 _ _)) HB3.out⟩
      | false =>
        have HR : Hid (chkL (List.drop 6 [(r0, 31), (r1, 21), (r2, 22), (r3, 23), (r4, 24), (false, 32), (r6, 33), (r7, 34), (r8, 35)]) = R) := hr
        clear hr
        go_wp2_with (go_at_call 62; refine (hk _ (below_step HBr.out (below1 _ _))).mono ?_; clear hk; rintro e w3 ⟨rfl, hb3⟩; have HB3 : Hid (Below _ _ _) := hb3; clear hb3)
        go_roundg gk
        case measure => omega
        case rel => exact ⟨6, by omega, rfl, HR.out, below_step (below_step HBr.out (below1 _ _)) HB3.out⟩
    · obtain ⟨gk, rfl⟩ : ∃ g, gk = g + 1 := ⟨gk - 1, by omega⟩
      obtain ⟨d0, d1⟩ := two_at hcb 12 (.func (.func 63) #[] #[]) (.int .i64 33) rfl rfl
      have hk := k6
      clear hcb hbr
      cases r6 with
      | true =>
        have HR : Hid (33 = R) := hr
        clear hr
        go_wp2_with (go_at_call 63; refine (hk _ (below_step HBr.out (below1 _ _))).mono ?_; clear hk; rintro e w3 ⟨rfl, hb3⟩; obtain ⟨q0, q1⟩ := two_at ((CBlk.new wr #[.func (.func 63) #[] #[], .int .i64 33] 88).later hb3) 0 _ _ rfl rfl; have HB3 : Hid (Below _ _ _) := hb3; clear hb3)
        go_ret
        exact ⟨ret_i HR.out, below_step (below_step (below_step HBW.out HBr.out) (below1 _ _)) HB3.out⟩
      | false =>
        have HR : Hid (chkL (List.drop 7 [(r0, 31), (r1, 21), (r2, 22), (r3, 23), (r4, 24), (r5, 32), (false, 33), (r7, 34), (r8, 35)]) = R) := hr
        clear hr
        go_wp2_with (go_at_call 63; refine (hk _ (below_step HBr.out (below1 _ _))).mono ?_; clear hk; rintro e w3 ⟨rfl, hb3⟩; have HB3 : Hid (Below _ _ _) := hb3; clear hb3)
        go_roundg gk
        case measure => omega
        case rel => exact ⟨7, by omega, rfl, HR.out, below_step (below_step HBr.out (below1 _ _)) HB3.out⟩
    · obtain ⟨gk, rfl⟩ : ∃ g, gk = g + 1 := ⟨gk - 1, by omega⟩
      obtain ⟨d0, d1⟩ := two_at hcb 14 (.func (.func 64) #[] #[]) (.int .i64 34) rfl rfl
      have hk := k7
      clear hcb hbr
      cases r7 with
      | true =>
        have HR : Hid (34 = R) := hr
        clear hr
        go_wp2_with (go_at_call 64; refine (hk _ (below_step HBr.out (below1 _ _))).mono ?_; clear hk; rintro e w3 ⟨rfl, hb3⟩; obtain ⟨q0, q1⟩ := two_at ((CBlk.new wr #[.func (.func 64) #[] #[], .int .i64 34] 88).later hb3) 0 _ _ rfl rfl; have HB3 : Hid (Below _ _ _) := hb3; clear hb3)
        go_ret
        exact ⟨ret_i HR.out, below_step (below_step (below_step HBW.out HBr.out) (below1 _ _)) HB3.out⟩
      | false =>
        have HR : Hid (chkL (List.drop 8 [(r0, 31), (r1, 21), (r2, 22), (r3, 23), (r4, 24), (r5, 32), (r6, 33), (false, 34), (r8, 35)]) = R) := hr
        clear hr
        go_wp2_with (go_at_call 64; refine (hk _ (below_step HBr.out (below1 _ _))).mono ?_; clear hk; rintro e w3 ⟨rfl, hb3⟩; have HB3 : Hid (Below _ _ _) := hb3; clear hb3)
        go_roundg gk
        case measure => omega
        case rel => exact ⟨8, by omega, rfl, HR.out, below_step (below_step HBr.out (below1 _ _)) HB3.out⟩
    · obtain ⟨gk, rfl⟩ : ∃ g, gk = g + 1 := ⟨gk - 1, by omega⟩
      obtain ⟨d0, d1⟩ := two_at hcb 16 (.func (.func 65) #[] #[]) (.int .i64 35) rfl rfl
      have hk := k8
      clear hcb hbr
      cases r8 with
      | true =>
        have HR : Hid (35 = R) := hr
        clear hr
        go_wp2_with (go_at_call 65; refine (hk _ (below_step HBr.out (below1 _ _))).mono ?_; clear hk; rintro e w3 ⟨rfl, hb3⟩; obtain ⟨q0, q1⟩ := two_at ((CBlk.new wr #[.func (.func 65) #[] #[], .int .i64 35] 88).later hb3) 0 _ _ rfl rfl; have HB3 : Hid (Below _ _ _) := hb3; clear hb3)
        go_ret
        exact ⟨ret_i HR.out, below_step (below_step (below_step HBW.out HBr.out) (below1 _ _)) HB3.out⟩
      | false =>
        have HR : Hid (chkL (List.drop 9 [(r0, 31), (r1, 21), (r2, 22), (r3, 23), (r4, 24), (r5, 32), (r6, 33), (r7, 34), (false, 35)]) = R) := hr
        clear hr
        go_wp2_with (go_at_call 65; refine (hk _ (below_step HBr.out (below1 _ _))).mono ?_; clear hk; rintro e w3 ⟨rfl, hb3⟩; have HB3 : Hid (Below _ _ _) := hb3; clear hb3)
        go_roundg gk
        case measure => omega
        case rel => exact ⟨9, by omega, rfl, HR.out, below_step (below_step HBr.out (below1 _ _)) HB3.out⟩
    · obtain rfl : gk = 0 := by omega
      have HR : Hid (0 = R) := hr
      clear hr hbr hcb c0 c1 c2 c3 c4 c5 c6
      go_wp2
      go_ret
      exact ⟨ret_i HR.out, below_step HBW.out HBr.out⟩
end Go.Proofs.YtnikmcmkbjjcdaaGreatDoor
/-
  hearsaylaw02.TermDecides, for every two terms.
-/
namespace Go.Proofs.YtnikmcmkbjjcdaaGreatDoor
open Go.RowKit
attribute [local go_sem ↓] Go.wp_at_zero Go.wp_at_succ

def x4 : Tm := ⟨3, 4, ⟨#[]⟩⟩
end Go.Proofs.YtnikmcmkbjjcdaaGreatDoor
/-
  Compare of tests and of lists. (Written by CL13.py.)
-/
namespace Go.Proofs.YtnikmcmkbjjcdaaGreatDoor
open Go.RowKit

theorem two_boxes {w w1 : World} {c d : Array Value} {t u : TypeId} (hb : Below ((w.alloc (.cells c t)).alloc (.cells d u)).heap.size ((w.alloc (.cells c t)).alloc (.cells d u)) w1) : CBlk w1 w.heap.size c t ∧ CBlk w1 (w.heap.size + 1) d u := by
  have h1 := ((CBlk.new w c t).later (below1 _ (.cells d u))).later hb
  have h2 := (CBlk.new (w.alloc (.cells c t)) d u).later hb
  rw [show (w.alloc (.cells c t)).heap.size = w.heap.size + 1 by simp] at h2
  exact ⟨h1, h2⟩
end Go.Proofs.YtnikmcmkbjjcdaaGreatDoor
/-
  terms, same of the laws.
-/
namespace Go.Proofs.YtnikmcmkbjjcdaaGreatDoor
open Go.RowKit
attribute [local go_sem ↓] Go.wp_at_zero Go.wp_at_succ

theorem drop_eq_step (a b : List Tm) (i : Nat) (t u : Tm) (ht : a[i]? = some t) (hu : b[i]? = some u) : (a.drop i = b.drop i) ↔ (t = u ∧ a.drop (i + 1) = b.drop (i + 1)) := by
  obtain ⟨h1, rfl⟩ := List.getElem?_eq_some_iff.1 ht
  obtain ⟨h2, rfl⟩ := List.getElem?_eq_some_iff.1 hu
  rw [List.drop_eq_getElem_cons h1, List.drop_eq_getElem_cons h2, List.cons.injEq]
instance : DecidableEq At := fun a b => decidable_of_iff (a.by_ = b.by_ ∧ a.name = b.name ∧ a.args = b.args) (by cases a; cases b; simp)
end Go.Proofs.YtnikmcmkbjjcdaaGreatDoor
/-
  The same, of the laws: terms, atoms, tests, clauses. (Written by CL14.py.)
-/
namespace Go.Proofs.YtnikmcmkbjjcdaaGreatDoor
open Go.RowKit
attribute [local go_sem ↓] Go.wp_at_zero Go.wp_at_succ

theorem run_neq_te (t u : Te) (w : World) : (binOp .neq 81 t.v u.v).run Tryz.prog w = .ok (.bool (!decide (t = u))) w := by
  obtain ⟨op, ⟨kl, ml, sl⟩, ⟨kr, mr, sr⟩⟩ := t
  obtain ⟨oq, ⟨kp, mp, sp⟩, ⟨kq, mq, sq⟩⟩ := u
  by_cases h0 : op = oq
  · subst h0
    by_cases h1 : kl = kp
    · subst h1
      by_cases h2 : ml = mp
      · subst h2
        by_cases h3 : sl = sp
        · subst h3
          by_cases h4 : kr = kq
          · subst h4
            by_cases h5 : mr = mq
            · subst h5
              by_cases h6 : sr = sq
              · subst h6; go_simp
              · have h7 : ¬ sr.toList = sq.toList := fun e => h6 (toList_inj e)
                go_simp
            · go_simp
          · go_simp
        · have h7 : ¬ sl.toList = sp.toList := fun e => h3 (toList_inj e)
          go_simp
      · go_simp
    · go_simp
  · go_simp
def fsts (l : List (At × Value)) : List At := l.map (·.1)
end Go.Proofs.YtnikmcmkbjjcdaaGreatDoor
/-
  Clauses in their order, as plain mathematics. (Written by CL22.py.)
-/
namespace Go.Proofs.YtnikmcmkbjjcdaaGreatDoor

/-- What a clause is, wherever it lies. -/
def Cm.key (c : Cm) : At × List At × List Te := (c.head.1, fsts c.body, c.tests)
end Go.Proofs.YtnikmcmkbjjcdaaGreatDoor
/-
  Clauses as plain data: what Made makes; numbering. (Plain.)
-/
namespace Go.Proofs.YtnikmcmkbjjcdaaGreatDoor
open Go.RowKit

/-- A clause as plain data. -/
abbrev Ck := At × List At × List Te
def Ck.terms (x : Ck) : List Tm := x.1.pl ++ (x.2.1.flatMap At.pl ++ tls x.2.2)
theorem key_terms (c : Cm) : c.terms = Ck.terms c.key := by
  rw [Cm.terms_eq, Ck.terms, Cm.key, flt, fsts, List.flatMap_map]; simp
def mapA (f : Tm → Tm) (a : At) : At := ⟨f a.by_, a.name, a.args.map f⟩
def mapE (f : Tm → Tm) (t : Te) : Te := ⟨t.op, f t.l, f t.r⟩
def mapC (f : Tm → Tm) (x : Ck) : Ck := (mapA f x.1, x.2.1.map (mapA f), x.2.2.map (mapE f))
theorem mapA_pl (f : Tm → Tm) (a : At) : (mapA f a).pl = a.pl.map f := rfl
theorem flat_mapA (f : Tm → Tm) (l : List At) : (l.map (mapA f)).flatMap At.pl = (l.flatMap At.pl).map f := by
  rw [List.flatMap_map, List.map_flatMap]; rfl
theorem tls_mapE (f : Tm → Tm) (l : List Te) : tls (l.map (mapE f)) = (tls l).map f := by
  unfold tls; rw [List.flatMap_map, List.map_flatMap]; rfl
theorem mapC_terms (f : Tm → Tm) (x : Ck) : Ck.terms (mapC f x) = (Ck.terms x).map f := by
  unfold Ck.terms mapC; simp only [mapA_pl, flat_mapA, tls_mapE, List.map_append]
theorem mapA_congr {f g : Tm → Tm} {a : At} (h : ∀ t ∈ a.pl, f t = g t) : mapA f a = mapA g a := by
  unfold mapA
  rw [h a.by_ (by simp [At.pl]), List.map_congr_left fun t ht => h t (by simp [At.pl, ht])]
theorem mapC_congr {f g : Tm → Tm} {x : Ck} (h : ∀ t ∈ Ck.terms x, f t = g t) : mapC f x = mapC g x := by
  unfold mapC
  have e1 : mapA f x.1 = mapA g x.1 := mapA_congr fun t ht => h t (by simp [Ck.terms, ht])
  have e2 : x.2.1.map (mapA f) = x.2.1.map (mapA g) := List.map_congr_left fun a ha => mapA_congr fun t ht => h t (List.mem_append_right _ (List.mem_append_left _ (List.mem_flatMap.2 ⟨a, ha, ht⟩)))
  have e3 : x.2.2.map (mapE f) = x.2.2.map (mapE g) := List.map_congr_left fun e he => by
    unfold mapE
    rw [h e.l, h e.r]
    · exact List.mem_append_right _ (List.mem_append_right _ (List.mem_flatMap.2 ⟨e, he, by simp⟩))
    · exact List.mem_append_right _ (List.mem_append_right _ (List.mem_flatMap.2 ⟨e, he, by simp⟩))
  rw [e1, e2, e3]
theorem mapA_id (a : At) : mapA (fun t => t) a = a := by cases a; simp [mapA]
theorem mapC_id (x : Ck) : mapC (fun t => t) x = x := by
  obtain ⟨h, b, t⟩ := x
  have e1 : (mapA fun t => t) = fun a => a := funext mapA_id
  have e2 : (mapE fun t => t) = fun a => a := funext fun a => by cases a; rfl
  simp [mapC, mapA_id, e1, e2]
theorem mapA_comp (f g : Tm → Tm) (a : At) : mapA f (mapA g a) = mapA (fun t => f (g t)) a := by simp [mapA, Function.comp_def]
theorem mapC_comp (f g : Tm → Tm) (x : Ck) : mapC f (mapC g x) = mapC (fun t => f (g t)) x := by
  simp [mapC, mapA_comp, mapE, Function.comp_def]
theorem err_zero' {a : At} (h : a.err = 0) : nameOk a.name = true ∧ a.args.length ≤ 8 ∧ qualOk a.by_ = true ∧ ∀ t ∈ a.args, t.cov = true := by
  unfold At.err at h
  split at h
  · cases h
  split at h
  · cases h
  split at h
  · cases h
  split at h
  · rename_i a1 a2 a3 a4
    exact ⟨by simpa using a1, by omega, by simpa using a3, by rwa [List.all_eq_true] at a4⟩
  · cases h
/-- Terms, none twice. -/
def dstepT (acc : List Tm) (x : Tm) : List Tm := if x ∈ acc then acc else acc ++ [x]
def disT (l : List Tm) : List Tm := (l.filter Tm.var).foldl dstepT []
theorem dstepT_mem {acc : List Tm} {x y : Tm} : y ∈ dstepT acc x ↔ y ∈ acc ∨ y = x := by
  unfold dstepT
  by_cases h : x ∈ acc
  · rw [if_pos h]
    exact ⟨Or.inl, fun e => e.elim id fun e => e ▸ h⟩
  · rw [if_neg h]; simp
theorem foldT_mem : ∀ {l acc : List Tm} {y : Tm}, y ∈ l.foldl dstepT acc ↔ y ∈ acc ∨ y ∈ l
  | [], acc, y => by simp
  | x :: l, acc, y => by rw [List.foldl_cons, foldT_mem, dstepT_mem, List.mem_cons, or_assoc]
theorem disT_mem {l : List Tm} {y : Tm} : y ∈ disT l ↔ y ∈ l ∧ y.var = true := by
  unfold disT; rw [foldT_mem, List.mem_filter]; simp
/-- Where a term first stands. -/
def ix : List Tm → Tm → Nat
  | [], _ => 0
  | x :: l, t => if x = t then 0 else ix l t + 1
theorem ix_lt : ∀ {l : List Tm} {t : Tm}, t ∈ l → ix l t < l.length
  | x :: l, t, h => by
    rw [ix]
    by_cases e : x = t
    · rw [if_pos e]; simp
    · rw [if_neg e]
      have := ix_lt (l := l) (t := t) (by rcases List.mem_cons.1 h with h | h; exact absurd h.symm e; exact h)
      simp only [List.length_cons]; omega
theorem ix_get : ∀ {l : List Tm} {t : Tm}, t ∈ l → l[ix l t]? = some t
  | x :: l, t, h => by
    rw [ix]
    by_cases e : x = t
    · rw [if_pos e]; simp [e]
    · rw [if_neg e, List.getElem?_cons_succ]; exact ix_get (by rcases List.mem_cons.1 h with h | h; exact absurd h.symm e; exact h)
def nmT (vs : List Tm) (t : Tm) : Tm := if t ∈ vs then ⟨3, (ix vs t : Nat), ⟨#[]⟩⟩ else t
def normC (x : Ck) : Ck := mapC (nmT (disT (Ck.terms x))) x
theorem nmT_var (vs : List Tm) (t : Tm) (h : ∀ u ∈ vs, u.var = true) : (nmT vs t).var = t.var := by
  unfold nmT
  by_cases hm : t ∈ vs
  · rw [if_pos hm, h t hm]; simp [Tm.var]
  · rw [if_neg hm]
/-- Valid but for the numbers. -/
structure Val0 (x : Ck) : Prop where
  e : ∀ a ∈ x.1 :: x.2.1, a.err = 0
  t : ∀ a ∈ x.2.2, a.ok = true
  bl : x.2.1.length ≤ 8
  tl : x.2.2.length ≤ 8
  h : x.1.by_.var = false
  s : ∀ t ∈ x.1.pl ++ tls x.2.2, t.var = true → t ∈ x.2.1.flatMap At.pl
end Go.Proofs.YtnikmcmkbjjcdaaGreatDoor
/-
  Apply. (Written by genA.py out of A1.head.)
-/
namespace Go.Proofs.YtnikmcmkbjjcdaaGreatDoor
open Go.RowKit
attribute [local go_sem ↓] Go.wp_at_zero Go.wp_at_succ

theorem Tryz.infoTerm : (Tryz.prog.info? 30).map (fun i => (i.zero, i.size, i.bytes)) = some (some (.agg #[.int .i64 0, .int .i64 0, .string ⟨#[]⟩]), 3, 32) := by kernel_rfl
def MC (n : Nat) : Array Value := madeCells #[.int .i64 0, .int .i64 0, .string ⟨#[]⟩] (n * 3)
theorem mk_terms (n : Nat) (hn : n ≤ 4398046511104) (w : World) : (Instr.makeSlice 31 (.int .i64 (n : Int)) (.int .i64 (n : Int))).run Tryz.prog w = .ok (.slice (some ⟨w.heap.size, 0, none⟩) n n) (w.alloc (.cells (MC n) 30)) := by
  obtain ⟨i, hi, h0, h1, h2⟩ := info_parts Tryz.infoTerm
  have h := run_make (P := Tryz.prog) w 31 30 i _ Tryz.underlying31 hi h0 .i64 .i64 n n (by omega) (Int.le_refl _) (by rw [h2]; omega) (by omega)
  rw [h1, Int.toNat_natCast] at h
  exact h
theorem fiveF {w : World} {g : Nat} {a b c d f : Value} {t : TypeId} (h : w.heap[g]? = some (.cells #[a, b, c, d, f] t (0, 0))) :
    (w.cell? ⟨g, 0, none⟩ = some a ∧ w.cell? ⟨g, 1, none⟩ = some b ∧ w.cell? ⟨g, 2, none⟩ = some c ∧ w.cell? ⟨g, 3, none⟩ = some d ∧ w.cell? ⟨g, 4, none⟩ = some f) ∧
    w.frozen? ⟨g, 0, none⟩ = false ∧ w.frozen? ⟨g, 1, none⟩ = false ∧ w.frozen? ⟨g, 2, none⟩ = false ∧ w.frozen? ⟨g, 3, none⟩ = false ∧ w.frozen? ⟨g, 4, none⟩ = false :=
  ⟨five h, frozen_of_row _ _ _ _ _ h, frozen_of_row _ _ _ _ _ h, frozen_of_row _ _ _ _ _ h, frozen_of_row _ _ _ _ _ h, frozen_of_row _ _ _ _ _ h⟩
theorem store5 {W : World} {G : Nat} {a b c d e a' b' c' d' e' : Value} {t : TypeId} (h : W.heap[G]? = some (.cells #[a, b, c, d, e] t (0, 0))) :
    (((((W.setCell ⟨G, 0, none⟩ a').setCell ⟨G, 1, none⟩ b').setCell ⟨G, 2, none⟩ c').setCell ⟨G, 3, none⟩ d').setCell ⟨G, 4, none⟩ e').heap[G]? = some (.cells #[a', b', c', d', e'] t (0, 0)) := by
  have h1 := heap_setCell_same _ _ 0 _ _ a' h
  have h2 := heap_setCell_same _ _ 1 _ _ b' h1
  have h3 := heap_setCell_same _ _ 2 _ _ c' h2
  have h4 := heap_setCell_same _ _ 3 _ _ d' h3
  exact heap_setCell_same _ _ 4 _ _ e' h4
theorem store5_other {W : World} {G k : Nat} {o : Obj} (a' b' c' d' e' : Value) (hk : k ≠ G) (h : W.heap[k]? = some o) :
    (((((W.setCell ⟨G, 0, none⟩ a').setCell ⟨G, 1, none⟩ b').setCell ⟨G, 2, none⟩ c').setCell ⟨G, 3, none⟩ d').setCell ⟨G, 4, none⟩ e').heap[k]? = some o := by
  rw [heap_setCell_other _ _ _ _ hk, heap_setCell_other _ _ _ _ hk, heap_setCell_other _ _ _ _ hk, heap_setCell_other _ _ _ _ hk, heap_setCell_other _ _ _ _ hk]; exact h
/-- Block g holds the first k of the terms l, and has room for all. -/
def TBlk (w : World) (g : Nat) (l : List Tm) (k : Nat) : Prop := ∃ C : Array Value, w.heap[g]? = some (.cells C 30 (0, 0)) ∧ C.size = l.length * 3 ∧
  ∀ i t, i < k → l[i]? = some t → C[i * 3]? = some (.int .i64 t.k) ∧ C[i * 3 + 1]? = some (.int .i64 t.n) ∧ C[i * 3 + 2]? = some (.string t.s)
theorem TBlk.start {w : World} {g : Nat} {l : List Tm} {n : Nat} (hn : n = l.length) (h : w.heap[g]? = some (.cells (MC n) 30 (0, 0))) : TBlk w g l 0 :=
  ⟨_, h, by rw [MC, size_madeCells, hn], fun i t hi => absurd hi (Nat.not_lt_zero _)⟩
theorem TBlk.later {w w' : World} {g : Nat} {l : List Tm} {k : Nat} (h : TBlk w g l k) (hb : Below w.heap.size w w') : TBlk w' g l k := by
  obtain ⟨C, h1, h2⟩ := h
  exact ⟨C, (hb.block _ (Array.getElem?_eq_some_iff.1 h1).1).trans h1, h2⟩
theorem TBlk.other {w : World} {g G i : Nat} {a : Value} {l : List Tm} {k : Nat} (h : TBlk w g l k) (hk : g ≠ G) : TBlk (w.setCell ⟨G, i, none⟩ a) g l k := by
  obtain ⟨C, h1, h2⟩ := h
  exact ⟨C, by rw [heap_setCell_other _ _ _ _ hk]; exact h1, h2⟩
theorem TBlk.cells {w : World} {g : Nat} {l : List Tm} {k j : Nat} (h : TBlk w g l k) (hj : j < l.length * 3) : (∃ c, w.cell? ⟨g, j, none⟩ = some c) ∧ w.frozen? ⟨g, j, none⟩ = false := by
  obtain ⟨C, h1, h2, -⟩ := h
  refine ⟨⟨C[j], ?_⟩, frozen_of_row _ _ _ _ _ h1⟩
  rw [cell_of_row _ _ _ _ _ _ h1]; simp
theorem TBlk.put {w : World} {g : Nat} {l : List Tm} {k : Nat} {t : Tm} (h : TBlk w g l k) (ht : l[k]? = some t) :
    TBlk (((w.setCell ⟨g, k * 3, none⟩ (.int .i64 t.k)).setCell ⟨g, k * 3 + 1, none⟩ (.int .i64 t.n)).setCell ⟨g, k * 3 + 2, none⟩ (.string t.s)) g l (k + 1) := by
  obtain ⟨C, h1, h2, h3⟩ := h
  have hk := (List.getElem?_eq_some_iff.1 ht).1
  have e1 := heap_setCell_same _ _ (k * 3) _ _ (.int .i64 t.k) h1
  have e2 := heap_setCell_same _ _ (k * 3 + 1) _ _ (.int .i64 t.n) e1
  have e3 := heap_setCell_same _ _ (k * 3 + 2) _ _ (.string t.s) e2
  refine ⟨_, e3, by simp [h2], fun i u hi hu => ?_⟩
  by_cases hik : i = k
  · subst hik
    rw [ht] at hu
    obtain rfl := Option.some.inj hu
    refine ⟨?_, ?_, ?_⟩ <;> simp [Array.getElem?_setIfInBounds, h2] <;> omega
  · obtain ⟨a, b, c⟩ := h3 i u (by omega) hu
    refine ⟨?_, ?_, ?_⟩
    · rw [Array.getElem?_setIfInBounds_ne (by omega), Array.getElem?_setIfInBounds_ne (by omega), Array.getElem?_setIfInBounds_ne (by omega)]; exact a
    · rw [Array.getElem?_setIfInBounds_ne (by omega), Array.getElem?_setIfInBounds_ne (by omega), Array.getElem?_setIfInBounds_ne (by omega)]; exact b
    · rw [Array.getElem?_setIfInBounds_ne (by omega), Array.getElem?_setIfInBounds_ne (by omega), Array.getElem?_setIfInBounds_ne (by omega)]; exact c
theorem TBlk.ts {w : World} {g : Nat} {l : List Tm} {n cap : Nat} (hn : n = l.length) (hl : n ≤ 4398046511104) (h : TBlk w g l n) : Ts w (.slice (some ⟨g, 0, none⟩) n cap) l := by
  subst hn
  obtain ⟨C, h1, h2, h3⟩ := h
  refine ⟨_, cap, rfl, by omega, Or.inr ⟨g, 0, rfl, (Array.getElem?_eq_some_iff.1 h1).1, fun i t ht => ?_⟩⟩
  obtain ⟨a, b, c⟩ := h3 i t (List.getElem?_eq_some_iff.1 ht).1 ht
  rw [cell_of_row _ _ _ _ _ _ h1, cell_of_row _ _ _ _ _ _ h1, cell_of_row _ _ _ _ _ _ h1]
  simp only [Nat.zero_add]
  exact ⟨a, b, c⟩
theorem putO {W : World} {G k i j m : Nat} {o : Obj} (a' b' c' : Value) (hk : k ≠ G) (h : W.heap[k]? = some o) :
    (((W.setCell ⟨G, i, none⟩ a').setCell ⟨G, j, none⟩ b').setCell ⟨G, m, none⟩ c').heap[k]? = some o := by
  rw [heap_setCell_other _ _ _ _ hk, heap_setCell_other _ _ _ _ hk, heap_setCell_other _ _ _ _ hk]; exact h
end Go.Proofs.YtnikmcmkbjjcdaaGreatDoor
