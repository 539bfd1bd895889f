/-
  madeTest. (Written by MD4.py.)
-/
import Derived.Test.YtllgffmhbddigaaGreatMD3
import Derived.Deep.RegionHeld3
namespace Go.Proofs.YtllgffmhbddigaaGreat
open Go.RowKit
attribute [local go_sem ↓] Go.wp_at_zero Go.wp_at_succ

/-- madeTest's boxes. -/
structure TSu (w X : World) (L R : Tm) (rc : Array Value) : Prop where
  br : CBlk X (w.heap.size + 1) rc 45
  bl : CBlk X (w.heap.size + 1 + 1) #[.int .i64 L.k, .int .i64 L.n, .string L.s] 23
  bR : CBlk X (w.heap.size + 1 + 1 + 1) #[.int .i64 R.k, .int .i64 R.n, .string R.s] 23
  bw : Below w.heap.size w X
theorem TSu.later {w X X' : World} {L R : Tm} {rc : Array Value} (h : TSu w X L R rc) (hb : Below X.heap.size X X') : TSu w X' L R rc :=
  ⟨h.br.later hb, h.bl.later hb, h.bR.later hb, below_step h.bw hb⟩
theorem TSu.put {w X : World} {L R : Tm} (h : TSu w X L R #[.int .i64 0, .int .i64 0, .int .i64 0, .string ⟨#[]⟩, .int .i64 0, .int .i64 0, .string ⟨#[]⟩]) (a b c d e f g : Value) :
    TSu w (((((((X.setCell ⟨w.heap.size + 1, 0, none⟩ a).setCell ⟨w.heap.size + 1, 1, none⟩ b).setCell ⟨w.heap.size + 1, 2, none⟩ c).setCell ⟨w.heap.size + 1, 3, none⟩ d).setCell ⟨w.heap.size + 1, 4, none⟩ e).setCell ⟨w.heap.size + 1, 5, none⟩ f).setCell ⟨w.heap.size + 1, 6, none⟩ g) L R #[a, b, c, d, e, f, g] := by
  have n1 : w.heap.size + 1 + 1 ≠ w.heap.size + 1 := by omega
  have n2 : w.heap.size + 1 + 1 + 1 ≠ w.heap.size + 1 := by omega
  have n3 : w.heap.size ≤ w.heap.size + 1 := by omega
  refine ⟨?_, ((((((h.bl.off n1).off n1).off n1).off n1).off n1).off n1).off n1, ((((((h.bR.off n2).off n2).off n2).off n2).off n2).off n2).off n2, ((((((h.bw.setCell n3 _).setCell n3 _).setCell n3 _).setCell n3 _).setCell n3 _).setCell n3 _).setCell n3 _⟩
  have := ((((((h.br.set 0 a).set 1 b).set 2 c).set 3 d).set 4 e).set 5 f).set 6 g
  simpa using this
theorem TSu.bl_ {w X : World} {L R M : Tm} {rc : Array Value} (h : TSu w X L R rc) :
    TSu w (((X.setCell ⟨w.heap.size + 1 + 1, 0, none⟩ (.int .i64 M.k)).setCell ⟨w.heap.size + 1 + 1, 1, none⟩ (.int .i64 M.n)).setCell ⟨w.heap.size + 1 + 1, 2, none⟩ (.string M.s)) M R rc := by
  have n1 : w.heap.size + 1 ≠ w.heap.size + 1 + 1 := by omega
  have n2 : w.heap.size + 1 + 1 + 1 ≠ w.heap.size + 1 + 1 := by omega
  have n3 : w.heap.size ≤ w.heap.size + 1 + 1 := by omega
  refine ⟨((h.br.off n1).off n1).off n1, ?_, ((h.bR.off n2).off n2).off n2, ((h.bw.setCell n3 _).setCell n3 _).setCell n3 _⟩
  have := ((h.bl.set 0 (.int .i64 M.k)).set 1 (.int .i64 M.n)).set 2 (.string M.s)
  simpa using this
theorem TSu.bR_ {w X : World} {L R M : Tm} {rc : Array Value} (h : TSu w X L R rc) :
    TSu w (((X.setCell ⟨w.heap.size + 1 + 1 + 1, 0, none⟩ (.int .i64 M.k)).setCell ⟨w.heap.size + 1 + 1 + 1, 1, none⟩ (.int .i64 M.n)).setCell ⟨w.heap.size + 1 + 1 + 1, 2, none⟩ (.string M.s)) L M rc := by
  have n1 : w.heap.size + 1 ≠ w.heap.size + 1 + 1 + 1 := by omega
  have n2 : w.heap.size + 1 + 1 ≠ w.heap.size + 1 + 1 + 1 := by omega
  have n3 : w.heap.size ≤ w.heap.size + 1 + 1 + 1 := by omega
  refine ⟨((h.br.off n1).off n1).off n1, ((h.bl.off n2).off n2).off n2, ?_, ((h.bw.setCell n3 _).setCell n3 _).setCell n3 _⟩
  have := ((h.bR.set 0 (.int .i64 M.k)).set 1 (.int .i64 M.n)).set 2 (.string M.s)
  simpa using this
abbrev tW (w : World) (t : Te) : World := (w.alloc (.cells #[.int .i64 t.op, .int .i64 t.l.k, .int .i64 t.l.n, .string t.l.s, .int .i64 t.r.k, .int .i64 t.r.n, .string t.r.s] 45)).alloc (.cells #[.int .i64 0, .int .i64 0, .int .i64 0, .string ⟨#[]⟩, .int .i64 0, .int .i64 0, .string ⟨#[]⟩] 45)
theorem TSu.start (w : World) (t : Te) : TSu w (((tW w t).alloc (.cells #[.int .i64 t.l.k, .int .i64 t.l.n, .string t.l.s] 23)).alloc (.cells #[.int .i64 t.r.k, .int .i64 t.r.n, .string t.r.s] 23)) t.l t.r #[.int .i64 0, .int .i64 0, .int .i64 0, .string ⟨#[]⟩, .int .i64 0, .int .i64 0, .string ⟨#[]⟩] := by
  have e1 : (w.alloc (.cells #[.int .i64 t.op, .int .i64 t.l.k, .int .i64 t.l.n, .string t.l.s, .int .i64 t.r.k, .int .i64 t.r.n, .string t.r.s] 45)).heap.size = w.heap.size + 1 := by simp
  have e2 : (tW w t).heap.size = w.heap.size + 1 + 1 := by simp [tW]
  have e3 : ((tW w t).alloc (.cells #[.int .i64 t.l.k, .int .i64 t.l.n, .string t.l.s] 23)).heap.size = w.heap.size + 1 + 1 + 1 := by simp [tW]
  have x1 := (CBlk.new (w.alloc (.cells #[.int .i64 t.op, .int .i64 t.l.k, .int .i64 t.l.n, .string t.l.s, .int .i64 t.r.k, .int .i64 t.r.n, .string t.r.s] 45)) #[.int .i64 0, .int .i64 0, .int .i64 0, .string ⟨#[]⟩, .int .i64 0, .int .i64 0, .string ⟨#[]⟩] 45).later (below2 (tW w t) (.cells #[.int .i64 t.l.k, .int .i64 t.l.n, .string t.l.s] 23) (.cells #[.int .i64 t.r.k, .int .i64 t.r.n, .string t.r.s] 23))
  have x2 := (CBlk.new (tW w t) #[.int .i64 t.l.k, .int .i64 t.l.n, .string t.l.s] 23).later (below1 _ (.cells #[.int .i64 t.r.k, .int .i64 t.r.n, .string t.r.s] 23))
  have x3 := CBlk.new ((tW w t).alloc (.cells #[.int .i64 t.l.k, .int .i64 t.l.n, .string t.l.s] 23)) #[.int .i64 t.r.k, .int .i64 t.r.n, .string t.r.s] 23
  rw [e1] at x1; rw [e2] at x2; rw [e3] at x3
  exact ⟨x1, x2, x3, below_step (below2 w _ _) (below2 _ _ _)⟩
set_option maxRecDepth 20000 in
set_option maxHeartbeats 8000000 in
theorem madeTest_any (t : Te) (v : Value) (l : List Tm) (w : World) (h : Ts w v l) :
    Calls Tryz.prog 38 #[t.v, v] w fun e w' => e = .returned (mkE l t).v ∧ Below w.heap.size w w' := by
  have HS0 : Hid (TSu w _ t.l t.r #[.int .i64 0, .int .i64 0, .int .i64 0, .string ⟨#[]⟩, .int .i64 0, .int .i64 0, .string ⟨#[]⟩]) := TSu.start w t
  obtain ⟨vl, hvl⟩ : ∃ b, t.l.var = b := ⟨_, rfl⟩
  obtain ⟨vr, hvr⟩ : ∃ b, t.r.var = b := ⟨_, rfl⟩
  have HVL : Hid (∀ X : World, Calls Tryz.prog 74 #[t.l.v] X fun e w' => e = .returned (.bool vl) ∧ Below X.heap.size X w') := fun X => by have := rvar_any t.l X; rw [hvl] at this; exact this
  have HVR : Hid (∀ X : World, Calls Tryz.prog 74 #[t.r.v] X fun e w' => e = .returned (.bool vr) ∧ Below X.heap.size X w') := fun X => by have := rvar_any t.r X; rw [hvr] at this; exact this
  have HML : Hid (∀ X : World, Calls Tryz.prog 75 #[t.l.v] X fun e w' => e = .returned (mkC t.l).v ∧ Below X.heap.size X w') := fun X => madeConst_any t.l X
  have HMR : Hid (∀ X : World, Calls Tryz.prog 75 #[t.r.v] X fun e w' => e = .returned (mkC t.r).v ∧ Below X.heap.size X w') := fun X => madeConst_any t.r X
  have HSL : Hid (∀ X : World, Below w.heap.size w X → Calls Tryz.prog 37 #[v, (fixT t.l).v] X fun e w' => e = .returned (sf l (fixT t.l)).v ∧ Below X.heap.size X w') := fun X hX => safe_any l v _ X (h.later hX)
  have HSR : Hid (∀ X : World, Below w.heap.size w X → Calls Tryz.prog 37 #[v, (fixT t.r).v] X fun e w' => e = .returned (sf l (fixT t.r)).v ∧ Below X.heap.size X w') := fun X hX => safe_any l v _ X (h.later hX)
  have HFL0 : Hid ((if t.l.var = true then t.l else mkC t.l) = fixT t.l) := rfl
  have HFR0 : Hid ((if t.r.var = true then t.r else mkC t.r) = fixT t.r) := rfl
  obtain ⟨o, ho⟩ : ∃ o, opF t.op = o := ⟨_, rfl⟩
  obtain ⟨⟨sk, sn, sz⟩, hsl⟩ : ∃ x, sf l (fixT t.l) = x := ⟨_, rfl⟩
  obtain ⟨⟨rk, rn, rz⟩, hsr⟩ : ∃ x, sf l (fixT t.r) = x := ⟨_, rfl⟩
  have HRES : Hid (mkE l t = ⟨o, ⟨sk, sn, sz⟩, ⟨rk, rn, rz⟩⟩) := by show _ = _; unfold mkE; rw [ho, hsl, hsr]
  rw [hsl] at HSL
  rw [hsr] at HSR
  obtain ⟨⟨xk, xn, xs⟩, hfl⟩ : ∃ x, fixT t.l = x := ⟨_, rfl⟩
  obtain ⟨⟨yk, yn, ys⟩, hfr⟩ : ∃ x, fixT t.r = x := ⟨_, rfl⟩
  rw [hfl] at HSL HFL0
  rw [hfr] at HSR HFR0
  rw [hvl] at HFL0
  rw [hvr] at HFR0
  have HO : Hid (opF t.op = o) := ho
  obtain ⟨bb, hbb⟩ : ∃ b, decide (t.op < 1 ∨ 4 < t.op) = b := ⟨_, rfl⟩
  have HBB : Hid (decide (t.op < 1 ∨ 4 < t.op) = bb) := hbb
  clear hbb
  obtain ⟨ad, cap, rfl, hl, hm⟩ := h
  clear hm ho hsl hsr hfl hfr hvl hvr
  obtain ⟨op, ⟨lk, ln, lz⟩, ⟨uk, un, uz⟩⟩ := t
  simp only at HS0 HO HBB
  go_enter Tryz.func38, Tryz.ntmps38
  go_upto_region 2 with fail
  go_cut [15] from 10 (fun s15 wx => s15 = .bool bb ∧ wx = tW w ⟨op, ⟨lk, ln, lz⟩, ⟨uk, un, uz⟩⟩)
  case first =>
    by_cases h1 : op < 1
    · obtain rfl : true = bb := by rw [← HBB.out, decide_eq_true (Or.inl h1)]
      go_wp2
      go_meet
      case rel => exact ⟨rfl, rfl⟩
    · by_cases h4 : 4 < op
      · obtain rfl : true = bb := by rw [← HBB.out, decide_eq_true (Or.inr h4)]
        go_wp2
        go_meet
        case rel => exact ⟨rfl, rfl⟩
      · obtain rfl : false = bb := by rw [← HBB.out, decide_eq_false (by omega)]
        go_wp2
        go_meet
        case rel => exact ⟨rfl, rfl⟩
  case rest =>
  obtain ⟨rfl, rfl⟩ := hcut
  go_upto_if 15 with fail
  go_cut [5] from 16 (fun s5 wx => s5 = .int .i64 o ∧ wx = tW w ⟨op, ⟨lk, ln, lz⟩, ⟨uk, un, uz⟩⟩)
  case first =>
    cases bb
    · obtain rfl : op = o := by have := HO.out; unfold opF at this; rw [if_neg (of_decide_eq_false HBB.out)] at this; exact this
      go_wp2
      go_meet
      case rel => exact ⟨rfl, rfl⟩
    · have ho : o = 1 + ((op.tmod 4) + 4).tmod 4 := by have := HO.out; unfold opF at this; rw [if_pos (of_decide_eq_true HBB.out)] at this; exact this.symm
      have HOO : Hid (o = 1 + ((op.tmod 4) + 4).tmod 4) := ho
      clear ho
      go_wp2
      go_meet
      case rel =>
        refine ⟨?_, rfl⟩
        have h1 := Int.tmod_lt_of_pos op (show (0 : Int) < 4 by omega)
        have h2 : -4 < op.tmod 4 := Int.lt_tmod_of_pos op (by omega)
        have h3 := Int.tmod_lt_of_pos (op.tmod 4 + 4) (show (0 : Int) < 4 by omega)
        have h4 : -4 < (op.tmod 4 + 4).tmod 4 := Int.lt_tmod_of_pos _ (by omega)
        have e1 : wrap64 (op.tmod 4 + 4) = op.tmod 4 + 4 := by unfold wrap64; omega
        rw [e1]
        have e2 : wrap64 (1 + (op.tmod 4 + 4).tmod 4) = 1 + (op.tmod 4 + 4).tmod 4 := by unfold wrap64; omega
        rw [e2, HOO.out]
  case rest =>
  obtain ⟨rfl, rfl⟩ := hcut
  clear HBB HO
  go_upto_if 27 with (go_at_call 74; refine (HVL.out _).mono ?_; clear HVL; rintro e w1 ⟨rfl, hb⟩; have HS1 : Hid (TSu w w1 ⟨lk, ln, lz⟩ ⟨uk, un, uz⟩ #[.int .i64 0, .int .i64 0, .int .i64 0, .string ⟨#[]⟩, .int .i64 0, .int .i64 0, .string ⟨#[]⟩]) := HS0.out.later hb; clear hb HS0)
  go_cut [] from 28 (fun wx => TSu w wx ⟨xk, xn, xs⟩ ⟨uk, un, uz⟩ #[.int .i64 0, .int .i64 0, .int .i64 0, .string ⟨#[]⟩, .int .i64 0, .int .i64 0, .string ⟨#[]⟩])
  case first =>
    cases vl
    · have hmk : mkC ⟨lk, ln, lz⟩ = ⟨xk, xn, xs⟩ := HFL0.out
      rw [hmk] at HML
      clear hmk
      obtain ⟨c0, c1, c2⟩ := cthree HS1.out.bl
      go_wp2_with (go_at_call 75; refine (HML.out _).mono ?_; clear HML; rintro e w2 ⟨rfl, hb⟩; have HS2 : Hid (TSu w w2 ⟨lk, ln, lz⟩ ⟨uk, un, uz⟩ #[.int .i64 0, .int .i64 0, .int .i64 0, .string ⟨#[]⟩, .int .i64 0, .int .i64 0, .string ⟨#[]⟩]) := HS1.out.later hb; clear hb c0 c1 c2; obtain ⟨c0, c1, c2⟩ := cthree HS2.out.bl; have f0 : w2.frozen? ⟨w.heap.size + 1 + 1, 0, none⟩ = false := HS2.out.bl.froz; have f1 : w2.frozen? ⟨w.heap.size + 1 + 1, 1, none⟩ = false := HS2.out.bl.froz; have f2 : w2.frozen? ⟨w.heap.size + 1 + 1, 2, none⟩ = false := HS2.out.bl.froz)
      go_meet
      case rel => exact HS2.out.bl_ (M := ⟨xk, xn, xs⟩)
    · have hmk : (⟨lk, ln, lz⟩ : Tm) = ⟨xk, xn, xs⟩ := HFL0.out
      simp only [Tm.mk.injEq] at hmk
      obtain ⟨rfl, rfl, rfl⟩ := hmk
      go_wp2
      go_meet
      case rel => exact HS1.out
  case rest =>
  have HS3 : Hid (TSu w wc ⟨xk, xn, xs⟩ ⟨uk, un, uz⟩ #[.int .i64 0, .int .i64 0, .int .i64 0, .string ⟨#[]⟩, .int .i64 0, .int .i64 0, .string ⟨#[]⟩]) := hcut
  clear hcut HS1 HML HFL0
  obtain ⟨c0, c1, c2⟩ := cthree HS3.out.bR
  simp only at c0 c1 c2
  go_upto_if 32 with (go_at_call 74; refine (HVR.out _).mono ?_; clear HVR; rintro e w3 ⟨rfl, hb⟩; have HS4 : Hid (TSu w w3 ⟨xk, xn, xs⟩ ⟨uk, un, uz⟩ #[.int .i64 0, .int .i64 0, .int .i64 0, .string ⟨#[]⟩, .int .i64 0, .int .i64 0, .string ⟨#[]⟩]) := HS3.out.later hb; clear hb HS3)
  clear c0 c1 c2
  go_cut [] from 33 (fun wx => TSu w wx ⟨xk, xn, xs⟩ ⟨yk, yn, ys⟩ #[.int .i64 0, .int .i64 0, .int .i64 0, .string ⟨#[]⟩, .int .i64 0, .int .i64 0, .string ⟨#[]⟩])
  case first =>
    cases vr
    · have hmk : mkC ⟨uk, un, uz⟩ = ⟨yk, yn, ys⟩ := HFR0.out
      rw [hmk] at HMR
      clear hmk
      obtain ⟨c0, c1, c2⟩ := cthree HS4.out.bR
      go_wp2_with (go_at_call 75; refine (HMR.out _).mono ?_; clear HMR; rintro e w2 ⟨rfl, hb⟩; have HS2 : Hid (TSu w w2 ⟨xk, xn, xs⟩ ⟨uk, un, uz⟩ #[.int .i64 0, .int .i64 0, .int .i64 0, .string ⟨#[]⟩, .int .i64 0, .int .i64 0, .string ⟨#[]⟩]) := HS4.out.later hb; clear hb c0 c1 c2; obtain ⟨c0, c1, c2⟩ := cthree HS2.out.bR; have f0 : w2.frozen? ⟨w.heap.size + 1 + 1 + 1, 0, none⟩ = false := HS2.out.bR.froz; have f1 : w2.frozen? ⟨w.heap.size + 1 + 1 + 1, 1, none⟩ = false := HS2.out.bR.froz; have f2 : w2.frozen? ⟨w.heap.size + 1 + 1 + 1, 2, none⟩ = false := HS2.out.bR.froz)
      go_meet
      case rel => exact HS2.out.bR_ (M := ⟨yk, yn, ys⟩)
    · have hmk : (⟨uk, un, uz⟩ : Tm) = ⟨yk, yn, ys⟩ := HFR0.out
      simp only [Tm.mk.injEq] at hmk
      obtain ⟨rfl, rfl, rfl⟩ := hmk
      go_wp2
      go_meet
      case rel => exact HS4.out
  case rest =>
  have HS5 : Hid (TSu w wc ⟨xk, xn, xs⟩ ⟨yk, yn, ys⟩ #[.int .i64 0, .int .i64 0, .int .i64 0, .string ⟨#[]⟩, .int .i64 0, .int .i64 0, .string ⟨#[]⟩]) := hcut
  clear hcut HS4 HMR HFR0
  go_wp2_with fail
  have hV0 : TSu w wc.drew ⟨xk, xn, xs⟩ ⟨yk, yn, ys⟩ #[.int .i64 0, .int .i64 0, .int .i64 0, .string ⟨#[]⟩, .int .i64 0, .int .i64 0, .string ⟨#[]⟩] := HS5.out.later (Below.refl _ _).drew
  refine wp_region_held_drew (S := fun w' => ∃ rc : Array Value, TSu w w' ⟨xk, xn, xs⟩ ⟨yk, yn, ys⟩ rc) (by kernel_rfl) ⟨_, hV0⟩ (fun hH => ?_)
  revert hH hV0
  generalize wc.drew = V0
  intro hV0 hH
  have HV0 : Hid (TSu w V0 ⟨xk, xn, xs⟩ ⟨yk, yn, ys⟩ #[.int .i64 0, .int .i64 0, .int .i64 0, .string ⟨#[]⟩, .int .i64 0, .int .i64 0, .string ⟨#[]⟩]) := hV0
  clear hV0 HS5
  refine wpAnyH_take (i := 0) (oi := ⟨_, _, _, _, _, _⟩) (v := .int .i64 o) rfl (by kernel_rfl) (by kernel_rfl) (by kernel_rfl) (fun _ _ _ h => h) (Or.inl ⟨by rfl, fun w' h => by clear h; go_simp⟩) hH ?_
  simp only [Act.put, List.setIfInBounds_toArray, List.set_cons_zero, List.set_cons_succ]
  refine wpAnyH_take (i := 1) (oi := ⟨_, _, _, _, _, _⟩) (v := .slice ad l.length cap) rfl (by kernel_rfl) (by kernel_rfl) (by kernel_rfl) (fun _ _ _ h => h) (Or.inl ⟨by rfl, fun w' h => by clear h; go_simp⟩) hH ?_
  simp only [Act.put, List.setIfInBounds_toArray, List.set_cons_zero, List.set_cons_succ]
  refine wpAnyH_take (i := 2) (oi := ⟨_, _, _, _, _, _⟩) (v := Tm.v ⟨xk, xn, xs⟩) rfl (by kernel_rfl) (by kernel_rfl) (by kernel_rfl) (fun _ _ _ h => h) (Or.inl ⟨by rfl, fun w' h => by obtain ⟨rc, h⟩ := h; obtain ⟨c0, c1, c2⟩ := cthree h.bl; clear h; go_simp⟩) hH ?_
  simp only [Act.put, List.setIfInBounds_toArray, List.set_cons_zero, List.set_cons_succ]
  refine wpAnyH_take (i := 4) (oi := ⟨_, _, _, _, _, _⟩) (v := .slice ad l.length cap) rfl (by kernel_rfl) (by kernel_rfl) (by kernel_rfl) (fun _ _ _ h => h) (Or.inl ⟨by rfl, fun w' h => by clear h; go_simp⟩) hH ?_
  simp only [Act.put, List.setIfInBounds_toArray, List.set_cons_zero, List.set_cons_succ]
  refine wpAnyH_take (i := 5) (oi := ⟨_, _, _, _, _, _⟩) (v := Tm.v ⟨yk, yn, ys⟩) rfl (by kernel_rfl) (by kernel_rfl) (by kernel_rfl) (fun _ _ _ h => h) (Or.inl ⟨by rfl, fun w' h => by obtain ⟨rc, h⟩ := h; obtain ⟨c0, c1, c2⟩ := cthree h.bR; clear h; go_simp⟩) hH ?_
  simp only [Act.put, List.setIfInBounds_toArray, List.set_cons_zero, List.set_cons_succ]
  refine wpAnyH_ready (rs := [3]) (by kernel_rfl) (by simp) ?_
  refine (AllReadyH.cons (o := ⟨_, _, _, _, _, _⟩) rfl (fun K hK => ?_) AllReadyH.nil)
  go_simp
  refine (HSL.out _ HV0.out.bw).mono ?_
  rintro e V1 ⟨rfl, hb⟩
  have HV1 : Hid (TSu w V1 ⟨xk, xn, xs⟩ ⟨yk, yn, ys⟩ #[.int .i64 0, .int .i64 0, .int .i64 0, .string ⟨#[]⟩, .int .i64 0, .int .i64 0, .string ⟨#[]⟩]) := HV0.out.later hb
  clear hb HV0 hH
  refine hK.out _ _ ⟨_, HV1.out⟩ (fun hH => ?_)
  clear hK K
  refine wpAnyH_ready (rs := [6]) (by kernel_rfl) (by simp) ?_
  refine (AllReadyH.cons (o := ⟨_, _, _, _, _, _⟩) rfl (fun K hK => ?_) AllReadyH.nil)
  go_simp
  refine (HSR.out _ HV1.out.bw).mono ?_
  rintro e V2 ⟨rfl, hb⟩
  have HV2 : Hid (TSu w V2 ⟨xk, xn, xs⟩ ⟨yk, yn, ys⟩ #[.int .i64 0, .int .i64 0, .int .i64 0, .string ⟨#[]⟩, .int .i64 0, .int .i64 0, .string ⟨#[]⟩]) := HV1.out.later hb
  clear hb HV1 hH
  refine hK.out _ _ ⟨_, HV2.out⟩ (fun hH => ?_)
  clear hK K
  refine wpAnyH_take (i := 7) (oi := ⟨_, _, _, _, _, _⟩) (v := .agg #[.int .i64 o, .int .i64 sk, .int .i64 sn, .string sz, .int .i64 rk, .int .i64 rn, .string rz]) rfl (by kernel_rfl) (by kernel_rfl) (by kernel_rfl) (fun _ _ _ h => h) (Or.inl ⟨by rfl, fun w' h => by clear h; go_simp⟩) hH ?_
  simp only [Act.put, List.setIfInBounds_toArray, List.set_cons_zero, List.set_cons_succ]
  refine wpAnyH_ready (rs := [8]) (by kernel_rfl) (by simp) ?_
  refine (AllReadyH.cons (o := ⟨_, _, _, _, _, _⟩) rfl (fun K hK => ?_) AllReadyH.nil)
  obtain ⟨c0, c1, c2, c3, c4, c5, c6⟩ := cseven HV2.out.br
  have f0 : V2.frozen? ⟨w.heap.size + 1, 0, none⟩ = false := HV2.out.br.froz
  have f1 : V2.frozen? ⟨w.heap.size + 1, 1, none⟩ = false := HV2.out.br.froz
  have f2 : V2.frozen? ⟨w.heap.size + 1, 2, none⟩ = false := HV2.out.br.froz
  have f3 : V2.frozen? ⟨w.heap.size + 1, 3, none⟩ = false := HV2.out.br.froz
  have f4 : V2.frozen? ⟨w.heap.size + 1, 4, none⟩ = false := HV2.out.br.froz
  have f5 : V2.frozen? ⟨w.heap.size + 1, 5, none⟩ = false := HV2.out.br.froz
  have f6 : V2.frozen? ⟨w.heap.size + 1, 6, none⟩ = false := HV2.out.br.froz
  go_simp
  clear c0 c1 c2 c3 c4 c5 c6 f0 f1 f2 f3 f4 f5 f6 hH
  have HV3 : Hid (TSu w _ ⟨xk, xn, xs⟩ ⟨yk, yn, ys⟩ #[.int .i64 o, .int .i64 sk, .int .i64 sn, .string sz, .int .i64 rk, .int .i64 rn, .string rz]) := HV2.out.put (.int .i64 o) (.int .i64 sk) (.int .i64 sn) (.string sz) (.int .i64 rk) (.int .i64 rn) (.string rz)
  refine hK.out _ _ ⟨_, HV3.out⟩ (fun hH => ?_)
  clear hK K hH
  refine wpAnyH_done (by kernel_rfl) ?_ _
  obtain ⟨r0, r1, r2, r3, r4, r5, r6⟩ := cseven HV3.out.br
  go_wp2
  refine bodyPost_ret (v := Te.v ⟨o, ⟨sk, sn, sz⟩, ⟨rk, rn, rz⟩⟩) (by simp [results, Tryz.results38, go_sem, r0, r1, r2, r3, r4, r5, r6]) rfl ⟨?_, HV3.out.bw⟩
  rw [HRES.out]
end Go.Proofs.YtllgffmhbddigaaGreat
