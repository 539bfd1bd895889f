/-
  atomsError, misnumbered.
-/
import Derived.Test.YtnikmcmkbjjcdaaGreatDoorW2
namespace Go.Proofs.YtnikmcmkbjjcdaaGreatDoor
open Go.RowKit Go.Shelf
attribute [local go_sem] Oper.semAt_some

def aErr : List (At × Value) → Int
  | [] => 0
  | x :: r => if x.1.err = 0 then aErr r else x.1.err
theorem aErr_zero : ∀ {l : List (At × Value)}, (∀ x ∈ l, x.1.err = 0) → aErr l = 0
  | [], _ => rfl
  | x :: l, h => by unfold aErr; rw [if_pos (h x (by simp))]; exact aErr_zero fun y hy => h y (by simp [hy])
theorem aErr_app : ∀ {p : List (At × Value)} {r : List (At × Value)}, (∀ x ∈ p, x.1.err = 0) → aErr (p ++ r) = aErr r
  | [], _, _ => rfl
  | x :: l, r, h => by rw [List.cons_append, aErr, if_pos (h x (by simp))]; exact aErr_app fun y hy => h y (by simp [hy])
theorem aErr_hit {pre xs : List (At × Value)} {x : At × Value} (h : ∀ y ∈ pre, y.1.err = 0) (hp : pre ++ [x] <+: xs) (hx : ¬ x.1.err = 0) : aErr xs = x.1.err := by
  obtain ⟨suf, rfl⟩ := hp
  rw [List.append_assoc, aErr_app h, List.singleton_append, aErr, if_neg hx]
theorem ret_errno {fn : Func} {i : Nat} (hf : fn.results = #[.cell i 24]) (tmps : Array Value) (w : World) (g : Nat) (v : Int)
    (h4 : tmps[i]?.getD undef = .pointer (some ⟨g, 0, none⟩)) (hg : w.cell? ⟨g, 0, none⟩ = some (.int .i64 v)) : (results fn tmps).run Tryz.prog w = .ok (.int .i64 v) w := by
  simp [results, hf, h4, go_sem, hg]
theorem ret_bcell {fn : Func} {i : Nat} (hf : fn.results = #[.cell i 4]) (tmps : Array Value) (w : World) (g : Nat) (v : Bool)
    (h4 : tmps[i]?.getD undef = .pointer (some ⟨g, 0, none⟩)) (hg : w.cell? ⟨g, 0, none⟩ = some (.bool v)) : (results fn tmps).run Tryz.prog w = .ok (.bool v) w := by
  simp [results, hf, h4, go_sem, hg]
theorem CBlk.put {W : World} {B E : Nat} {c : Array Value} {t : TypeId} (h : CBlk W B c t) (o : Obj) (hne : B ≠ E) : CBlk (W.putObj E o) B c t := (World.putObj_heap_other hne).trans h
theorem CBlk.set {W : World} {B : Nat} {c : Array Value} {t : TypeId} (h : CBlk W B c t) (i : Nat) (v : Value) : CBlk (W.setCell ⟨B, i, none⟩ v) B (c.setIfInBounds i v) t := heap_setCell_same _ _ _ _ _ _ h
theorem CBlk.off {W : World} {B G i : Nat} {c : Array Value} {t : TypeId} {v : Value} (h : CBlk W B c t) (hne : B ≠ G) : CBlk (W.setCell ⟨G, i, none⟩ v) B c t := by
  unfold CBlk; rw [heap_setCell_other _ _ _ _ hne]; exact h
theorem below_put {w X : World} {E : Nat} {o' : Obj} (h : Below w.heap.size w X) (hE : w.heap.size ≤ E) : Below w.heap.size w (X.putObj E o') :=
  ⟨h.os, h.tape, h.output, by simpa using h.size, fun k hk => (World.putObj_heap_other (by omega)).trans (h.block k hk)⟩
set_option maxRecDepth 100000 in
set_option maxHeartbeats 4000000 in
theorem atomsError_any (c : Cm) (w : World) (h : c.ok w) :
    Calls Tryz.prog 89 #[c.v] w fun e w' => e = .returned (.int .i64 (aErr c.atoms)) ∧ Below w.heap.size w w' := by
  obtain ⟨⟨a, hn, cap, h1⟩, ⟨a', cap', h2⟩, ⟨a'', cap'', h3⟩, hbl, htl⟩ := h.shape
  have HOK : Hid (c.ok w) := h
  have hat := atoms_any c ((w.alloc (.cells c.cs 37)).alloc (.cells #[.int .i64 0] 24)) (h.later (below2 _ _ _))
  obtain ⟨⟨⟨⟨k, m, s⟩, nm, ls⟩, hx⟩, body, bv, tests, tv⟩ := c
  simp only at h1 h2 h3 hbl htl hat
  subst h1 h2 h3
  obtain ⟨n, -⟩ : ∃ n : Nat, True := ⟨0, trivial⟩
  refine (callsIn_wide (n := n)).1 ?_
  refine callsIn_of_wp_marks Tryz.func89 rfl trivial ?_ rfl
  simp only [Tryz.ntmps89, List.size_toArray, List.length_cons, List.length_nil, Nat.reduceAdd, Nat.reduceSub, Array.replicate_succ, Array.replicate_zero, List.push_toArray, List.append_toArray, List.nil_append, List.cons_append]
  gi_wp2
  refine ⟨trivial, fun h => (by cases h), (callsIn_wide.2 hat).mono ?_⟩
  rintro e w' ⟨rfl, rfl⟩
  clear hat h
  have hz1 : (((w.alloc (.cells (Cm.cs ⟨(⟨⟨k, m, s⟩, nm, ls⟩, .slice a hn cap), body, .slice a' body.length cap', tests, .slice a'' tests.length cap''⟩) 37)).alloc (.cells #[.int .i64 0] 24)).alloc (.cells (Cm.cs ⟨(⟨⟨k, m, s⟩, nm, ls⟩, .slice a hn cap), body, .slice a' body.length cap', tests, .slice a'' tests.length cap''⟩) 37)).heap.size = w.heap.size + 3 := by simp
  have b1 : CBlk (((w.alloc (.cells (Cm.cs ⟨(⟨⟨k, m, s⟩, nm, ls⟩, .slice a hn cap), body, .slice a' body.length cap', tests, .slice a'' tests.length cap''⟩) 37)).alloc (.cells #[.int .i64 0] 24)).alloc (.cells (Cm.cs ⟨(⟨⟨k, m, s⟩, nm, ls⟩, .slice a hn cap), body, .slice a' body.length cap', tests, .slice a'' tests.length cap''⟩) 37)) (w.heap.size + 1) #[.int .i64 0] 24 := by
    have := (CBlk.new (w.alloc (.cells (Cm.cs ⟨(⟨⟨k, m, s⟩, nm, ls⟩, .slice a hn cap), body, .slice a' body.length cap', tests, .slice a'' tests.length cap''⟩) 37)) #[.int .i64 0] 24).later (below1 _ (.cells (Cm.cs ⟨(⟨⟨k, m, s⟩, nm, ls⟩, .slice a hn cap), body, .slice a' body.length cap', tests, .slice a'' tests.length cap''⟩) 37))
    rwa [show (w.alloc (.cells (Cm.cs ⟨(⟨⟨k, m, s⟩, nm, ls⟩, .slice a hn cap), body, .slice a' body.length cap', tests, .slice a'' tests.length cap''⟩) 37)).heap.size = w.heap.size + 1 by simp] at this
  have b2 : CBlk (((w.alloc (.cells (Cm.cs ⟨(⟨⟨k, m, s⟩, nm, ls⟩, .slice a hn cap), body, .slice a' body.length cap', tests, .slice a'' tests.length cap''⟩) 37)).alloc (.cells #[.int .i64 0] 24)).alloc (.cells (Cm.cs ⟨(⟨⟨k, m, s⟩, nm, ls⟩, .slice a hn cap), body, .slice a' body.length cap', tests, .slice a'' tests.length cap''⟩) 37)) (w.heap.size + 1 + 1) (Cm.cs ⟨(⟨⟨k, m, s⟩, nm, ls⟩, .slice a hn cap), body, .slice a' body.length cap', tests, .slice a'' tests.length cap''⟩) 37 := by
    have := CBlk.new ((w.alloc (.cells (Cm.cs ⟨(⟨⟨k, m, s⟩, nm, ls⟩, .slice a hn cap), body, .slice a' body.length cap', tests, .slice a'' tests.length cap''⟩) 37)).alloc (.cells #[.int .i64 0] 24)) (Cm.cs ⟨(⟨⟨k, m, s⟩, nm, ls⟩, .slice a hn cap), body, .slice a' body.length cap', tests, .slice a'' tests.length cap''⟩) 37
    rwa [show ((w.alloc (.cells (Cm.cs ⟨(⟨⟨k, m, s⟩, nm, ls⟩, .slice a hn cap), body, .slice a' body.length cap', tests, .slice a'' tests.length cap''⟩) 37)).alloc (.cells #[.int .i64 0] 24)).heap.size = w.heap.size + 1 + 1 by simp] at this
  have hB1 : Below w.heap.size w (((w.alloc (.cells (Cm.cs ⟨(⟨⟨k, m, s⟩, nm, ls⟩, .slice a hn cap), body, .slice a' body.length cap', tests, .slice a'' tests.length cap''⟩) 37)).alloc (.cells #[.int .i64 0] 24)).alloc (.cells (Cm.cs ⟨(⟨⟨k, m, s⟩, nm, ls⟩, .slice a hn cap), body, .slice a' body.length cap', tests, .slice a'' tests.length cap''⟩) 37)) := (below2 w _ _).trans ((below1 _ _).mono (by simp; omega))
  gi_wp2
  revert hz1 b1 b2 hB1
  generalize ((w.alloc (.cells (Cm.cs ⟨(⟨⟨k, m, s⟩, nm, ls⟩, .slice a hn cap), body, .slice a' body.length cap', tests, .slice a'' tests.length cap''⟩) 37)).alloc (.cells #[.int .i64 0] 24)).alloc (.cells (Cm.cs ⟨(⟨⟨k, m, s⟩, nm, ls⟩, .slice a hn cap), body, .slice a' body.length cap', tests, .slice a'' tests.length cap''⟩) 37) = V
  intro hz1 b1 b2 hB1
  refine wpIn_seq (gf := 125) (lb := #[.pointer (some ⟨w.heap.size + 1 + 1, 0, none⟩)]) rfl (enters_of Tryz.func125 (by kernel_rfl) rfl) (atoms_seq ⟨(⟨⟨k, m, s⟩, nm, ls⟩, .slice a hn cap), body, .slice a' body.length cap', tests, .slice a'' tests.length cap''⟩ (w.heap.size + 1 + 1)) (fun _ => rfl)
    (fun pre X => (∀ y ∈ pre, y.1.err = 0) ∧ CBlk X (w.heap.size + 1) #[.int .i64 0] 24 ∧ CBlk X (w.heap.size + 1 + 1) (Cm.cs ⟨(⟨⟨k, m, s⟩, nm, ls⟩, .slice a hn cap), body, .slice a' body.length cap', tests, .slice a'' tests.length cap''⟩) 37 ∧ Below w.heap.size w X)
    (fun cd _ X => cd = .ret ∧ CBlk X (w.heap.size + 1) #[.int .i64 (aErr (Cm.atoms ⟨(⟨⟨k, m, s⟩, nm, ls⟩, .slice a hn cap), body, .slice a' body.length cap', tests, .slice a'' tests.length cap''⟩))] 24 ∧ Below w.heap.size w X)
    (OwnFrom.and (ownFrom_pure _ _) (OwnFrom.and (cblk_own _ _ _ _) (OwnFrom.and (cblk_own _ _ _ _) (ownFrom_below (Nat.le_refl _) (by omega)))))
    (fun cd => OwnFrom.and (ownFrom_pure _ (fun _ => cd = .ret)) (OwnFrom.and (cblk_own _ _ _ _) (ownFrom_below (Nat.le_refl _) (by omega))))
    (fun pre X h => ⟨h.2.2.1, HOK.out.later h.2.2.2⟩)
    ⟨fun y hy => by simp at hy, b1, b2, hB1⟩
    (fun x act X => ∃ Bx, w.heap.size + 1 + 1 < Bx ∧ CBlk X Bx (x.1.cs x.2) 33 ∧ act = { tmps := #[.agg #[.int .i64 k, .int .i64 m, .string s, .string nm, .slice a hn cap, .slice a' body.length cap', .slice a'' tests.length cap''], .pointer (some ⟨w.heap.size, 0, none⟩), .pointer (some ⟨w.heap.size + 1, 0, none⟩), .pointer (some ⟨Bx, 0, none⟩), undef, .agg #[.int .i64 k, .int .i64 m, .string s, .string nm, .slice a hn cap, .slice a' body.length cap', .slice a'' tests.length cap''], .func (.func 125) #[] #[.pointer (some ⟨w.heap.size + 1 + 1, 0, none⟩)], x.1.v x.2, undef, undef, undef, undef, undef], defers := [] })
    (fun x _ _ X Y row hs hg hr => by obtain ⟨Bx, h1, h2, h3⟩ := hs; exact ⟨Bx, h1, cblk_own (β := Unit) _ _ _ _ () X Y row h2 hg hr, h3⟩)
    ?assign ?body ?done ?stop
  case assign =>
    rintro l' mm pre x X K hpre ⟨hz, hf, hb, hbw⟩ hle hK
    obtain ⟨ax, cx, hax, -⟩ := (HOK.out.later hbw).mem (mem_of_pre hpre)
    obtain ⟨⟨⟨kx, mx, sx⟩, nx, lx⟩, vx⟩ := x
    simp only at hax
    subst hax
    gi_wp2
    exact hK _ _ (Up.alloc _ _ _) ⟨hz, hf.later (below1 _ _), hb.later (below1 _ _), below_step hbw (below1 _ _)⟩ ⟨X.heap.size, by omega, CBlk.new _ _ _, rfl⟩
  case body =>
    rintro l' mm pre x act X hpre ⟨hz, hf, hb, hbw⟩ ⟨Bx, hBx, hX, rfl⟩ hle
    have hts := (HOK.out.later hbw).mem (mem_of_pre hpre)
    have hca := chk_any x.1 x.2 X hts
    obtain ⟨ax, cx, hax, -⟩ := hts
    have HZ : Hid (∀ y ∈ pre, y.1.err = 0) := hz
    have HP : Hid (pre ++ [x] <+: Cm.atoms ⟨(⟨⟨k, m, s⟩, nm, ls⟩, .slice a hn cap), body, .slice a' body.length cap', tests, .slice a'' tests.length cap''⟩) := hpre
    have HF : Hid (CBlk X (w.heap.size + 1) #[.int .i64 0] 24) := hf
    have HB : Hid (CBlk X (w.heap.size + 1 + 1) (Cm.cs ⟨(⟨⟨k, m, s⟩, nm, ls⟩, .slice a hn cap), body, .slice a' body.length cap', tests, .slice a'' tests.length cap''⟩) 37) := hb
    have HBW : Hid (Below w.heap.size w X) := hbw
    obtain ⟨e, he⟩ : ∃ e, x.1.err = e := ⟨_, rfl⟩
    have HE : Hid (x.1.err = e) := he
    rw [he] at hca
    obtain ⟨⟨⟨kx, mx, sx⟩, nx, lx⟩, vx⟩ := x
    simp only at hax hca
    subst hax
    obtain ⟨x0, x1, x2, x3, x4⟩ := cfive hX
    clear hX hf hb hbw hz hpre he
    by_cases h0 : e = 0
    · subst h0
      gi_wp2
      refine ⟨trivial, fun h => (by cases h), (CallsIn.inRound l' (callsIn_wide.2 hca)).mono ?_⟩
      clear hca x0 x1 x2 x3 x4
      rintro e w' ⟨rfl, hbx⟩
      have HX' : Hid (Below X.heap.size X w') := hbx
      clear hbx
      gi_wp2
      refine ⟨Up.below HX'.out, fun y hy => ?_, HF.out.later HX'.out, HB.out.later HX'.out, below_step HBW.out HX'.out⟩
      rcases List.mem_append.1 hy with hy | hy
      · exact HZ.out y hy
      · rw [List.mem_singleton] at hy; subst hy; exact HE.out
    · have n1 : (e == 0) = false := beq_eq_false_iff_ne.2 h0
      have n2 : (e != 0) = true := by rw [bne, n1]; rfl
      have HN : Hid (¬ e = 0) := h0
      clear h0
      gi_wp2
      refine ⟨trivial, fun h => (by cases h), (CallsIn.inRound l' (callsIn_wide.2 hca)).mono ?_⟩
      clear hca x0 x1 x2 x3 x4
      rintro e' w' ⟨rfl, hbx⟩
      obtain ⟨f0, f1⟩ := one (HF.out.later hbx)
      have HX' : Hid (Below X.heap.size X w') := hbx
      clear hbx
      gi_wp2
      refine ⟨(Up.below HX'.out).trans (Up.setCell _ (by simp only; omega)), rfl, ?_, (below_step HBW.out HX'.out).setCell (by simp only; omega) _⟩
      rw [aErr_hit HZ.out HP.out (by rw [HE.out]; exact HN.out)]
      have := (HF.out.later HX'.out).set 0 (.int .i64 e)
      rw [HE.out]
      exact this
  case done =>
    rintro E X hE ⟨hz, hf, hb, hbw⟩ hD
    obtain ⟨f0, f1⟩ := one hf
    have HZ : Hid (∀ y ∈ Cm.atoms ⟨(⟨⟨k, m, s⟩, nm, ls⟩, .slice a hn cap), body, .slice a' body.length cap', tests, .slice a'' tests.length cap''⟩, y.1.err = 0) := hz
    have HF : Hid (CBlk X (w.heap.size + 1) #[.int .i64 0] 24) := hf
    have HBW : Hid (Below w.heap.size w X) := hbw
    have HD : Hid (X.heap[E]? = some (.deferred (some []))) := hD
    clear hz hf hb hbw hD
    gi_wp2
    refine ⟨by simp, .inl ⟨_, _, rfl, run_takeDeferred ((heap_setCell_other _ _ _ _ (show E ≠ w.heap.size + 1 by omega)).trans HD.out), ?_⟩⟩
    refine ⟨_, ret_errno Tryz.results89 _ _ (w.heap.size + 1) 0 rfl (one ((HF.out.set 0 (.int .i64 0)).put _ (by omega))).1, ?_, ?_⟩
    · rw [aErr_zero HZ.out]
    · exact below_put (HBW.out.setCell (by simp only; omega) _) (by omega)
  case stop =>
    rintro E cd pre X hE hpre ⟨rfl, hf, hbw⟩ hD
    have HF : Hid (CBlk X (w.heap.size + 1) #[.int .i64 (aErr (Cm.atoms ⟨(⟨⟨k, m, s⟩, nm, ls⟩, .slice a hn cap), body, .slice a' body.length cap', tests, .slice a'' tests.length cap''⟩))] 24) := hf
    clear hf
    gi_wp2
    refine ⟨by simp, .inl ⟨_, _, rfl, run_takeDeferred hD, ?_⟩⟩
    exact ⟨_, ret_errno Tryz.results89 _ _ (w.heap.size + 1) _ rfl (one (HF.out.put _ (by omega))).1, rfl, below_put hbw (by omega)⟩
end Go.Proofs.YtnikmcmkbjjcdaaGreatDoor
