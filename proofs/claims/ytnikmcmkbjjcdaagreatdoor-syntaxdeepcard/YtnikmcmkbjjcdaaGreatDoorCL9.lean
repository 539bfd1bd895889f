/-
  unboundVariable.
-/
import Derived.Test.YtnikmcmkbjjcdaaGreatDoorCL8
namespace Go.Proofs.YtnikmcmkbjjcdaaGreatDoor
open Go.RowKit Go.Shelf
attribute [local go_sem] Oper.semAt_some

/-- The clause with its body alone, and with all else. -/
def Cm.bodyC (c : Cm) : Cm := ⟨(⟨⟨0, 0, ⟨#[]⟩⟩, ⟨#[]⟩, []⟩, .slice none 0 0), c.body, c.bv, [], .slice none 0 0⟩
def Cm.restC (c : Cm) : Cm := ⟨c.head, [], .slice none 0 0, c.tests, c.tv⟩
theorem Cm.ok.bodyC {w : World} {c : Cm} (h : c.ok w) : c.bodyC.ok w := ⟨⟨none, 0, rfl, by simp [Cm.bodyC], Or.inl rfl⟩, h.b, ⟨none, 0, rfl, by simp [Cm.bodyC], Or.inl rfl⟩⟩
theorem Cm.ok.restC {w : World} {c : Cm} (h : c.ok w) : c.restC.ok w := ⟨h.h, ⟨none, 0, rfl, by simp [Cm.restC], Or.inl rfl, fun x hx => by simp [Cm.restC] at hx⟩, h.t⟩
def unb (c : Cm) : Bool := c.restC.vars.any fun v => !decide (v ∈ c.bodyC.vars)
theorem unb_no {c : Cm} (h : ∀ v ∈ c.restC.vars, v ∈ c.bodyC.vars) : unb c = false := by
  unfold unb
  rw [List.any_eq_false]
  intro v hv
  simp [h v hv]
theorem unb_yes {c : Cm} {pre : List Int} {x : Int} (hp : pre ++ [x] <+: c.restC.vars) (hx : ¬ x ∈ c.bodyC.vars) : unb c = true := by
  unfold unb
  rw [List.any_eq_true]
  exact ⟨x, mem_of_pre hp, by simp [hx]⟩
theorem bodyC_eq (k m : Int) (s nm : ByteArray) (ls : List Tm) (hx bv tv : Value) (body : List (At × Value)) (tests : List Te) : Cm.bodyC ⟨(⟨⟨k, m, s⟩, nm, ls⟩, hx), body, bv, tests, tv⟩ = ⟨(⟨⟨0, 0, ⟨#[]⟩⟩, ⟨#[]⟩, []⟩, .slice none 0 0), body, bv, [], .slice none 0 0⟩ := rfl
theorem restC_eq (k m : Int) (s nm : ByteArray) (ls : List Tm) (hx bv tv : Value) (body : List (At × Value)) (tests : List Te) : Cm.restC ⟨(⟨⟨k, m, s⟩, nm, ls⟩, hx), body, bv, tests, tv⟩ = ⟨(⟨⟨k, m, s⟩, nm, ls⟩, hx), [], .slice none 0 0, tests, tv⟩ := rfl
set_option maxRecDepth 100000 in
set_option maxHeartbeats 4000000 in
theorem unbound_any (c : Cm) (w : World) (h : c.ok w) (hw : ∀ v ∈ c.bodyC.vars, (Lit.int .i64 v).wf = true) (hw2 : ∀ v ∈ c.restC.vars, (Lit.int .i64 v).wf = true) (hvl : c.bodyC.vars.length < 4000000000000000000) :
    Calls Tryz.prog 64 #[c.v] w fun e w' => e = .returned (.bool (unb c)) ∧ Below w.heap.size w w' := by
  obtain ⟨⟨a, hn, cap, h1⟩, ⟨a', cap', h2⟩, ⟨a'', cap'', h3⟩, hbl, htl⟩ := h.shape
  have HOK : Hid (c.ok w) := h
  have HWF : Hid (∀ v ∈ c.restC.vars, (Lit.int .i64 v).wf = true) := hw2
  have hb2 : Below w.heap.size w ((w.alloc (.cells c.cs 37)).alloc (.cells #[.bool false] 4)) := below2 w _ _
  have hat := variableSet_any c.bodyC _ ((h.later hb2).bodyC) hw hvl
  have hva := fun (X : World) (hX : Below w.heap.size w X) => variables_any c.restC X (h.later hX).restC
  have b0 : CBlk ((w.alloc (.cells c.cs 37)).alloc (.cells #[.bool false] 4)) w.heap.size c.cs 37 := (CBlk.new w c.cs 37).later (below1 _ _)
  have b1 : CBlk ((w.alloc (.cells c.cs 37)).alloc (.cells #[.bool false] 4)) (w.heap.size + 1) #[.bool false] 4 := by
    have := CBlk.new (w.alloc (.cells c.cs 37)) #[.bool false] 4
    rwa [show (w.alloc (.cells c.cs 37)).heap.size = w.heap.size + 1 by simp] at this
  have hz0 : ((w.alloc (.cells c.cs 37)).alloc (.cells #[.bool false] 4)).heap.size = w.heap.size + 2 := by simp
  obtain ⟨⟨⟨⟨k, m, s⟩, nm, ls⟩, hx⟩, body, bv, tests, tv⟩ := c
  simp only at h1 h2 h3 hbl htl
  subst h1 h2 h3
  rw [bodyC_eq] at hat
  simp only [restC_eq] at hva
  obtain ⟨vb, hvb⟩ : ∃ l, Cm.vars ⟨(⟨⟨0, 0, ⟨#[]⟩⟩, ⟨#[]⟩, []⟩, .slice none 0 0), body, .slice a' body.length cap', [], .slice none 0 0⟩ = l := ⟨_, rfl⟩
  have HVB : Hid (Cm.vars ⟨(⟨⟨0, 0, ⟨#[]⟩⟩, ⟨#[]⟩, []⟩, .slice none 0 0), body, .slice a' body.length cap', [], .slice none 0 0⟩ = vb) := hvb
  rw [hvb] at hat
  clear h hw hvl hw2 hvb
  obtain ⟨n, -⟩ : ∃ n : Nat, True := ⟨0, trivial⟩
  refine (callsIn_wide (n := n)).1 ?_
  refine callsIn_of_wp_marks Tryz.func64 rfl trivial ?_ rfl
  simp only [Tryz.ntmps64, List.size_toArray, List.length_cons, List.length_nil, Nat.reduceAdd, Nat.reduceSub, Array.replicate_succ, Array.replicate_zero, List.push_toArray, List.append_toArray, List.nil_append, List.cons_append]
  gi_wp2
  refine ⟨trivial, fun h => (by cases h), (callsIn_wide.2 hat).mono ?_⟩
  rintro e w2 ⟨b, rfl, hs, hbb, hb3⟩
  rw [hz0] at hbb
  clear hat
  have hz2 := hb3.size
  rw [hz0] at hz2
  obtain ⟨Bm, hBm⟩ : ∃ B, w2.heap.size = B := ⟨_, rfl⟩
  rw [hBm] at hz2
  have B0 := CBlk.later b0 hb3
  have B1 := CBlk.later b1 hb3
  have hB2 := below_step hb2 hb3
  have b3 := CBlk.new w2 #[.map (some b)] 135
  have hz3 : (w2.alloc (.cells #[.map (some b)] 135)).heap.size = Bm + 1 := by simp [hBm]
  rw [hBm] at b3
  have hsb : b < Bm := by
    obtain ⟨es, clock, hmap, -⟩ := hs
    have := (Array.getElem?_eq_some_iff.1 hmap).1
    omega
  have hs3 := hs.later (below1 w2 (.cells #[.map (some b)] 135))
  have B03 := B0.later (below1 w2 (.cells #[.map (some b)] 135))
  have B13 := B1.later (below1 w2 (.cells #[.map (some b)] 135))
  have hB3 := below_step hB2 (below1 w2 (.cells #[.map (some b)] 135))
  clear hs hb3 B0 B1 hB2 b0 b1 hb2 hz0
  obtain ⟨c0, c1, c2, c3, c4, c5, c6⟩ := cseven B03
  simp only at c0 c1 c2 c3 c4 c5 c6
  gi_wp2
  refine ⟨trivial, fun h => (by cases h), (callsIn_wide.2 (hva _ hB3)).mono ?_⟩
  rintro e w' ⟨rfl, rfl⟩
  clear c0 c1 c2 c3 c4 c5 c6
  have hz4 : ((w2.alloc (.cells #[.map (some b)] 135)).alloc (.cells (Cm.cs ⟨(⟨⟨k, m, s⟩, nm, ls⟩, .slice a hn cap), [], .slice none 0 0, tests, .slice a'' tests.length cap''⟩) 37)).heap.size = Bm + 2 := by simp [hBm]
  have d0 := hs3.later (below1 _ (.cells (Cm.cs ⟨(⟨⟨k, m, s⟩, nm, ls⟩, .slice a hn cap), [], .slice none 0 0, tests, .slice a'' tests.length cap''⟩) 37))
  have d1 := B13.later (below1 _ (.cells (Cm.cs ⟨(⟨⟨k, m, s⟩, nm, ls⟩, .slice a hn cap), [], .slice none 0 0, tests, .slice a'' tests.length cap''⟩) 37))
  have d2 := b3.later (below1 _ (.cells (Cm.cs ⟨(⟨⟨k, m, s⟩, nm, ls⟩, .slice a hn cap), [], .slice none 0 0, tests, .slice a'' tests.length cap''⟩) 37))
  have d3 := CBlk.new (w2.alloc (.cells #[.map (some b)] 135)) (Cm.cs ⟨(⟨⟨k, m, s⟩, nm, ls⟩, .slice a hn cap), [], .slice none 0 0, tests, .slice a'' tests.length cap''⟩) 37
  rw [hz3] at d3
  have d4 := below_step hB3 (below1 _ (.cells (Cm.cs ⟨(⟨⟨k, m, s⟩, nm, ls⟩, .slice a hn cap), [], .slice none 0 0, tests, .slice a'' tests.length cap''⟩) 37))
  clear hva hs3 B03 B13 hB3 b3
  gi_wp2
  revert hz4 d0 d1 d2 d3 d4
  generalize (w2.alloc (.cells #[.map (some b)] 135)).alloc (.cells (Cm.cs ⟨(⟨⟨k, m, s⟩, nm, ls⟩, .slice a hn cap), [], .slice none 0 0, tests, .slice a'' tests.length cap''⟩) 37) = V
  intro hz4 d0 d1 d2 d3 d4
  refine wpIn_seq (gf := 108) (lb := #[.pointer (some ⟨Bm + 1, 0, none⟩)]) rfl (enters_of Tryz.func108 (by kernel_rfl) rfl) (variables_seq ⟨(⟨⟨k, m, s⟩, nm, ls⟩, .slice a hn cap), [], .slice none 0 0, tests, .slice a'' tests.length cap''⟩ (Bm + 1)) (fun _ => rfl)
    (fun pre X => (∀ v ∈ pre, v ∈ vb) ∧ SetOk X b vb ∧ CBlk X (w.heap.size + 1) #[.bool false] 4 ∧ CBlk X Bm #[.map (some b)] 135 ∧ CBlk X (Bm + 1) (Cm.cs ⟨(⟨⟨k, m, s⟩, nm, ls⟩, .slice a hn cap), [], .slice none 0 0, tests, .slice a'' tests.length cap''⟩) 37 ∧ Below w.heap.size w X)
    (fun cd _ X => (cd = .ret ∧ unb ⟨(⟨⟨k, m, s⟩, nm, ls⟩, .slice a hn cap), body, .slice a' body.length cap', tests, .slice a'' tests.length cap''⟩ = true) ∧ CBlk X (w.heap.size + 1) #[.bool true] 4 ∧ Below w.heap.size w X)
    (OwnFrom.and (ownFrom_pure _ _) (OwnFrom.and (fun _ X Y row hs hg hr => set_own _ _ (by omega) vb X Y row hs hg hr) (OwnFrom.and (cblk_own _ _ _ _) (OwnFrom.and (cblk_own _ _ _ _) (OwnFrom.and (cblk_own _ _ _ _) (ownFrom_below (Nat.le_refl _) (by omega)))))))
    (fun cd => OwnFrom.and (ownFrom_pure _ (fun _ => cd = .ret ∧ unb ⟨(⟨⟨k, m, s⟩, nm, ls⟩, .slice a hn cap), body, .slice a' body.length cap', tests, .slice a'' tests.length cap''⟩ = true)) (OwnFrom.and (cblk_own _ _ _ _) (ownFrom_below (Nat.le_refl _) (by omega))))
    (fun pre X h => ⟨h.2.2.2.2.1, (HOK.out.later h.2.2.2.2.2).restC⟩)
    ⟨fun v hv => by simp at hv, d0, d1, d2, d3, d4⟩
    (fun x act X => act = { tmps := #[.agg #[.int .i64 k, .int .i64 m, .string s, .string nm, .slice a hn cap, .slice a' body.length cap', .slice a'' tests.length cap''], .pointer (some ⟨w.heap.size, 0, none⟩), .pointer (some ⟨w.heap.size + 1, 0, none⟩), .pointer (some ⟨Bm, 0, none⟩), .int .i64 x, undef, undef, .pointer (some ⟨w.heap.size, 5, none⟩), .slice a' body.length cap', .agg #[.int .i64 0, .int .i64 0, .string ⟨#[]⟩, .string ⟨#[]⟩, .slice none 0 0, .slice a' body.length cap', .slice none 0 0], .map (some b), .pointer (some ⟨w.heap.size, 0, none⟩), .agg #[.int .i64 k, .int .i64 m, .string s, .string nm, .slice a hn cap], .pointer (some ⟨w.heap.size, 6, none⟩), .slice a'' tests.length cap'', .agg #[.int .i64 k, .int .i64 m, .string s, .string nm, .slice a hn cap, .slice none 0 0, .slice a'' tests.length cap''], .func (.func 108) #[] #[.pointer (some ⟨Bm + 1, 0, none⟩)], .int .i64 x, undef, undef, undef, undef, undef, undef, undef, undef], defers := [] })
    (fun x act => ownFrom_pure _ (fun _ => act = _))
    ?assign ?bdy ?done ?stop
  case assign =>
    rintro l' mm pre x X K hpre hi hle hK
    gi_wp2
    exact hK _ _ (Up.refl _ _) hi rfl
  case bdy =>
    rintro l' mm pre x act X hpre ⟨hin, hs, hr, hf, hb, hbw⟩ rfl hle
    have HI : Hid (∀ v ∈ pre, v ∈ vb) := hin
    have HS : Hid (SetOk X b vb) := hs
    have HR : Hid (CBlk X (w.heap.size + 1) #[.bool false] 4) := hr
    have HF : Hid (CBlk X Bm #[.map (some b)] 135) := hf
    have HB : Hid (CBlk X (Bm + 1) (Cm.cs ⟨(⟨⟨k, m, s⟩, nm, ls⟩, .slice a hn cap), [], .slice none 0 0, tests, .slice a'' tests.length cap''⟩) 37) := hb
    have HBW : Hid (Below w.heap.size w X) := hbw
    have HP : Hid (pre ++ [x] <+: Cm.vars ⟨(⟨⟨k, m, s⟩, nm, ls⟩, .slice a hn cap), [], .slice none 0 0, tests, .slice a'' tests.length cap''⟩) := hpre
    have HWX : Hid ((Lit.int .i64 x).wf = true) := HWF.out x (mem_of_pre hpre)
    obtain ⟨f0, f1⟩ := one hf
    obtain ⟨r0, r1⟩ := one (hr.later (below1 X (.cells #[] 140)))
    have hzX : w.heap.size + 1 < X.heap.size := hr.lt
    have hzm : Bm < X.heap.size := hf.lt
    clear hin hs hr hf hb hbw hpre
    by_cases q : x ∈ vb
    · have hd : Maps.has (sv vb) (.int .i64 x) = true := by rw [has_sv]; simp [q]
      have HQ : Hid (x ∈ vb) := q
      clear q
      gi_wp2_with (gi_at_lookup; refine wpListIn_lookup_own_unit _ rfl _ _ 135 rfl 3 140 (Maps.int_keyed Tryz.underlying3) Tryz.underlying135 (Tryz.zeroValue140 _) b vb.length (sv vb) rfl HS.out _ _ rfl (Maps.keyOf_int_mk Tryz.underlying3 HWX.out) ?_)
      refine ⟨Up.alloc _ _ _, fun v hv => ?_, HS.out.later (below1 _ _), HR.out.later (below1 _ _), HF.out.later (below1 _ _), HB.out.later (below1 _ _), below_step HBW.out (below1 _ _)⟩
      rcases List.mem_append.1 hv with hv | hv
      · exact HI.out v hv
      · rw [List.mem_singleton] at hv; rw [hv]; exact HQ.out
    · have hd : Maps.has (sv vb) (.int .i64 x) = false := by rw [has_sv]; simp [q]
      have HQ : Hid (¬ x ∈ vb) := q
      clear q
      gi_wp2_with (gi_at_lookup; refine wpListIn_lookup_own_unit _ rfl _ _ 135 rfl 3 140 (Maps.int_keyed Tryz.underlying3) Tryz.underlying135 (Tryz.zeroValue140 _) b vb.length (sv vb) rfl HS.out _ _ rfl (Maps.keyOf_int_mk Tryz.underlying3 HWX.out) ?_)
      refine ⟨(Up.setCell _ (by simp only; omega)).trans (Up.alloc _ _ _), ⟨rfl, ?_⟩, (HR.out.set 0 (.bool true)).later (below1 _ _), below_step (HBW.out.setCell (by simp only; omega) _) (below1 _ _)⟩
      refine unb_yes (x := x) (pre := pre) ?_ ?_
      · rw [restC_eq]; exact HP.out
      · rw [bodyC_eq, HVB.out]; exact HQ.out
  case done =>
    rintro E X hE ⟨hin, hs, hr, hf, hb, hbw⟩ hD
    obtain ⟨r0, r1⟩ := one hr
    have HI : Hid (∀ v ∈ Cm.vars ⟨(⟨⟨k, m, s⟩, nm, ls⟩, .slice a hn cap), [], .slice none 0 0, tests, .slice a'' tests.length cap''⟩, v ∈ vb) := hin
    have HR : Hid (CBlk X (w.heap.size + 1) #[.bool false] 4) := hr
    have HBW : Hid (Below w.heap.size w X) := hbw
    have HD : Hid (X.heap[E]? = some (.deferred (some []))) := hD
    clear hin hs hr hf hb hbw hD
    gi_wp2
    refine ⟨by simp, .inl ⟨_, _, rfl, run_takeDeferred ((heap_setCell_other _ _ _ _ (show E ≠ w.heap.size + 1 by omega)).trans HD.out), ?_⟩⟩
    refine ⟨_, ret_bcell Tryz.results64 _ _ (w.heap.size + 1) false rfl (one ((HR.out.set 0 (.bool false)).put _ (by omega))).1, ?_, ?_⟩
    · rw [unb_no (c := ⟨(⟨⟨k, m, s⟩, nm, ls⟩, .slice a hn cap), body, .slice a' body.length cap', tests, .slice a'' tests.length cap''⟩) (by rw [restC_eq, bodyC_eq, HVB.out]; exact HI.out)]
    · exact below_put (HBW.out.setCell (by simp only; omega) _) (by omega)
  case stop =>
    rintro E cd pre X hE hpre ⟨⟨rfl, hm⟩, hf, hbw⟩ hD
    have HF : Hid (CBlk X (w.heap.size + 1) #[.bool true] 4) := hf
    have HM : Hid (unb ⟨(⟨⟨k, m, s⟩, nm, ls⟩, .slice a hn cap), body, .slice a' body.length cap', tests, .slice a'' tests.length cap''⟩ = true) := hm
    clear hf hm
    gi_wp2
    refine ⟨by simp, .inl ⟨_, _, rfl, run_takeDeferred hD, ?_⟩⟩
    exact ⟨_, ret_bcell Tryz.results64 _ _ (w.heap.size + 1) true rfl (one (HF.out.put _ (by omega))).1, by rw [HM.out], below_put hbw (by omega)⟩
end Go.Proofs.YtnikmcmkbjjcdaaGreatDoor
