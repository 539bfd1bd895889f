/-
  hearsaylaw02.TermUnifies, given canSay.
-/
import Derived.Test.YtlojgaigbdnjjabP7
import Derived.Test.YtlojgaigbdnjjabV1
import Derived.Test.YtlojgaigbdnjjabA1
import Derived.Test.YtlojgaigbdnjjabO2
import Derived.Test.YtlojgaigbdnjjabT3
import Derived.Test.YtlojgaigbdnjjabB9
import Derived.Deep.CutRange
namespace Go.Proofs.Ytlojgaigbdnjjab
open Go.RowKit
attribute [local go_sem ↓] Go.wp_at_zero Go.wp_at_succ

set_option maxHeartbeats 1000000 in
theorem fits_any (s : List Bd) (v : Value) (t : Tm) (w : World) (h : Bs w v s) : Calls Try.prog 8 #[v, t.v] w fun e w' => e = .returned (.bool (FitsB (become s) t)) ∧ Below w.heap.size w w' := by
  have HV : Hid (Bs w v s) := h
  clear h
  cases hv : t.var
  · have HR : Hid (FitsB (become s) t = true) := by show _ = _; unfold FitsB; rw [hv]; rfl
    obtain ⟨k, n, z⟩ := t
    have HVT : Hid (Tm.var ⟨k, n, z⟩ = false) := hv
    clear hv
    go_enter Try.func8, Try.ntmps8
    go_wp2_with (go_at_call 19; refine (var_any ⟨k, n, z⟩ _).mono ?_; rw [HVT.out]; rintro e w1 ⟨rfl, hb1⟩)
    go_ret
    exact ⟨ret_b HR.out.symm, below_step (below1 _ _) hb1⟩
  · have hb : become s t = sayT s t.n := var_become s t hv
    obtain ⟨⟨fk, fn, fz⟩, hf⟩ : ∃ x, sayT s t.n = x := ⟨_, rfl⟩
    obtain ⟨p, hp⟩ : ∃ p, Tm.prin ⟨fk, fn, fz⟩ = p := ⟨_, rfl⟩
    obtain ⟨q, hq⟩ : ∃ p, Tm.var ⟨fk, fn, fz⟩ = p := ⟨_, rfl⟩
    have HR : Hid (FitsB (become s) t = (p || q)) := by show _ = _; unfold FitsB; rw [hv, hb, hf, hp, hq]; rfl
    obtain ⟨k, n, z⟩ := t
    have HVT : Hid (Tm.var ⟨k, n, z⟩ = true) := hv
    have HF : Hid (sayT s n = ⟨fk, fn, fz⟩) := hf
    have HP : Hid (Tm.prin ⟨fk, fn, fz⟩ = p) := hp
    have HQ : Hid (Tm.var ⟨fk, fn, fz⟩ = q) := hq
    clear hv hb hf hp hq
    go_enter Try.func8, Try.ntmps8
    go_upto_region 4 with (first
      | (go_at_call 19; refine (var_any ⟨k, n, z⟩ _).mono ?_; rw [HVT.out]; rintro e w1 ⟨rfl, hb1⟩; obtain ⟨p0, p1, p2, -, -, -⟩ := three ((Blk.new w #[.int .i64 k, .int .i64 n, .string z] 23).later hb1))
      | (go_at_call 20; refine (says_any s v n _ (HV.out.later (below_step (below1 _ _) hb1))).mono ?_; rw [HF.out]; rintro e w2 ⟨rfl, hb2⟩))
    have bx := Blk.new w2 #[.int .i64 fk, .int .i64 fn, .string fz] 23
    have hbx := below1 w2 (.cells #[.int .i64 fk, .int .i64 fn, .string fz] 23)
    have hbw : Below w.heap.size w w2 := below_step (below_step (below1 _ _) hb1) hb2
    revert bx hbx
    generalize w2.alloc (.cells #[.int .i64 fk, .int .i64 fn, .string fz] 23) = X
    intro bx hbx
    have hX := below_step hbw hbx
    have BX : Hid (Blk X w2.heap.size #[.int .i64 fk, .int .i64 fn, .string fz] 23) := bx
    obtain ⟨x0, x1, x2, -, -, -⟩ := three bx
    clear p0 p1 p2 bx hbx hbw hb1 hb2
    cases p
    · go_wp2_with (first
        | (go_at_call 21; refine (prin_any ⟨fk, fn, fz⟩ _).mono ?_; rw [HP.out]; rintro e w3 ⟨rfl, hb3⟩; clear x0 x1 x2; obtain ⟨x0, x1, x2, -, -, -⟩ := three (Blk.later (Hid.out BX) hb3))
        | (go_at_call 19; refine (var_any ⟨fk, fn, fz⟩ _).mono ?_; rw [HQ.out]; rintro e w4 ⟨rfl, hb4⟩))
      go_ret
      exact ⟨ret_b (by rw [HR.out]; rfl), below_step (below_step hX hb3) hb4⟩
    · go_wp2_with (go_at_call 21; refine (prin_any ⟨fk, fn, fz⟩ _).mono ?_; rw [HP.out]; rintro e w3 ⟨rfl, hb3⟩)
      go_ret
      exact ⟨ret_b (by rw [HR.out]; rfl), below_step hX hb3⟩
set_option maxRecDepth 20000 in
set_option maxHeartbeats 2000000 in
theorem unifies_any (hsay : SayOK) (a b : At) (s : List Bd) (x y v : Value) (w : World) (hx : Ts w x a.args) (hy : Ts w y b.args) (hv : Bs w v s) (hla : a.args.length ≤ 400000000000) (hlb : b.args.length ≤ 400000000000) :
    Calls Try.prog 3 #[a.v x, b.v y, v] w fun e w' => e = .returned (.bool true) ∧ Below w.heap.size w w' := by
  have u1 := fun (X : World) (h : Below w.heap.size w X) => unify_any hsay a b x y X (hx.later h) (hy.later h) hla
  have u2 := fun (X : World) (h : Below w.heap.size w X) => unify_any hsay b a y x X (hy.later h) (hx.later h) hlb
  have apA : ∀ X m L, Below w.heap.size w X → Bs X m L → Calls Try.prog 5 #[m, a.v x] X fun e w' => ∃ z, e = .returned ((a.mk' (become L)).v z) ∧ Ts w' z (a.mk' (become L)).args ∧ Below X.heap.size X w' := fun X m L h hm => apply_any L m a x X hm (hx.later h) (by omega)
  have apB : ∀ X m L, Below w.heap.size w X → Bs X m L → Calls Try.prog 5 #[m, b.v y] X fun e w' => ∃ z, e = .returned ((b.mk' (become L)).v z) ∧ Ts w' z (b.mk' (become L)).args ∧ Below X.heap.size X w' := fun X m L h hm => apply_any L m b y X hm (hy.later h) (by omega)
  have apX : ∀ X m L L0 z, Bs X m L → Ts X z (a.mk' (become L0)).args → Calls Try.prog 5 #[m, (a.mk' (become L0)).v z] X fun e w' => ∃ z', e = .returned (((a.mk' (become L0)).mk' (become L)).v z') ∧ Ts w' z' ((a.mk' (become L0)).mk' (become L)).args ∧ Below X.heap.size X w' := fun X m L L0 z hm hz => apply_any L m (a.mk' (become L0)) z X hm hz (by simp [At.mk']; omega)
  obtain ⟨A, hA⟩ : ∃ A, A = a := ⟨_, rfl⟩
  obtain ⟨D, hD⟩ : ∃ D, D = b := ⟨_, rfl⟩
  rw [← hA, ← hD] at u1 u2
  have HU1 : Hid (∀ X, Below w.heap.size w X → Calls Try.prog 4 #[a.v x, b.v y] X (UPost X A D)) := by rw [hA, hD] at u1 ⊢; exact u1
  have HU2 : Hid (∀ X, Below w.heap.size w X → Calls Try.prog 4 #[b.v y, a.v x] X (UPost X D A)) := by rw [hA, hD] at u2 ⊢; exact u2
  obtain ⟨⟨⟨mk, mn, mz⟩, mm, ml⟩, hM⟩ : ∃ M, a.mk' (become s) = M := ⟨_, rfl⟩
  obtain ⟨⟨⟨dk, dn, dz⟩, dm, dl⟩, hMD⟩ : ∃ M, b.mk' (become s) = M := ⟨_, rfl⟩
  have am := fun (X : World) (h : Below w.heap.size w X) => apA X v s h (hv.later h)
  have bm := fun (X : World) (h : Below w.heap.size w X) => apB X v s h (hv.later h)
  rw [hM] at am
  rw [hMD] at bm
  have AM : Hid _ := am
  have BM : Hid _ := bm
  have APA : Hid _ := apA
  have APB : Hid _ := apB
  have APX : Hid _ := apX
  have HV : Hid (Bs w v s) := hv
  have HM : Hid (A.mk' (become s) = ⟨⟨mk, mn, mz⟩, mm, ml⟩) := by show _ = _; rw [hA]; exact hM
  have HMD : Hid (D.mk' (become s) = ⟨⟨dk, dn, dz⟩, dm, dl⟩) := by show _ = _; rw [hD]; exact hMD
  obtain ⟨⟨k, n, ss⟩, nm, l⟩ := a
  obtain ⟨⟨k', n', ss'⟩, nm', l'⟩ := b
  have HA : Hid (A = ⟨⟨k, n, ss⟩, nm, l⟩) := hA
  have HD : Hid (D = ⟨⟨k', n', ss'⟩, nm', l'⟩) := hD
  clear u1 u2 apA apB apX am bm hA hD hM hMD hx hy hv hsay
  go_enter Try.func3, Try.ntmps3
  go_upto_region 2 with (go_at_call 4; refine (HU1.out _ (below2 _ _ _)).mono ?_; intro e W1 hup; obtain ⟨hb1, m, is, rfl, hal⟩ := upost_facts hup; obtain ⟨L, hL, hcs⟩ := u_use hal; clear hup hal)
  have BA1 := (Blk.old w #[.int .i64 k, .int .i64 n, .string ss, .string nm, x] 26 (.cells #[.int .i64 k', .int .i64 n', .string ss', .string nm', y] 26)).later hb1
  have BD1 : Hid (Blk W1 (w.heap.size + 1) #[.int .i64 k', .int .i64 n', .string ss', .string nm', y] 26) := (Blk.new2 w _ 26 _).later hb1
  have BW1 : Hid (Below w.heap.size w W1) := below_step (below2 _ _ _) hb1
  have HL : Hid (∀ X, Below W1.heap.size W1 X → Bs X m L) := hL
  have HCS : Hid _ := hcs
  obtain ⟨⟨⟨xk, xn, xz⟩, xm, xl⟩, hXA⟩ : ∃ M, A.mk' (become L) = M := ⟨_, rfl⟩
  have HXA : Hid (A.mk' (become L) = ⟨⟨xk, xn, xz⟩, xm, xl⟩) := hXA
  have ax := APA.out W1 m L (Hid.out BW1) (hL W1 (Below.refl _ _))
  rw [← HA.out, hXA] at ax
  rw [HA.out] at ax
  have AX : Hid _ := ax
  obtain ⟨p0, p1, p2, p3, p4⟩ := five BA1
  have BA1 : Hid (Blk W1 w.heap.size #[.int .i64 k, .int .i64 n, .string ss, .string nm, x] 26) := BA1
  clear hb1 hL hcs hXA ax APA
  go_upto_region 3 with (go_at_call 5; refine Calls.mono AX.out ?_; rintro e w2 ⟨z, rfl, tz, hb2⟩; have TZ : Hid (Ts w2 z xl) := tz; obtain ⟨za, zc, rfl, -, -⟩ := tz)
  have BX := Blk.new w2 #[.int .i64 xk, .int .i64 xn, .string xz, .string xm, .slice za xl.length zc] 26
  have hb3 := below1 w2 (.cells #[.int .i64 xk, .int .i64 xn, .string xz, .string xm, .slice za xl.length zc] 26)
  revert BX hb3
  generalize w2.alloc (.cells #[.int .i64 xk, .int .i64 xn, .string xz, .string xm, .slice za xl.length zc] 26) = W3
  intro BX hb3
  have BX3 : Hid (Blk W3 w2.heap.size #[.int .i64 xk, .int .i64 xn, .string xz, .string xm, .slice za xl.length zc] 26) := BX
  have BA3 : Hid (Blk W3 w.heap.size #[.int .i64 k, .int .i64 n, .string ss, .string nm, x] 26) := Blk.later (Blk.later (Hid.out BA1) hb2) hb3
  have BD3 : Hid (Blk W3 (w.heap.size + 1) #[.int .i64 k', .int .i64 n', .string ss', .string nm', y] 26) := Blk.later (Blk.later (Hid.out BD1) hb2) hb3
  have TX3 : Hid (Ts W3 (.slice za xl.length zc) xl) := TZ.out.later hb3
  have BW3 : Hid (Below w.heap.size w W3) := below_step (below_step (Hid.out BW1) hb2) hb3
  have HL3 : Hid (∀ X, Below W3.heap.size W3 X → Bs X m L) := fun X h => HL.out X (below_step (below_step hb2 hb3) h)
  clear p0 p1 p2 p3 p4 BX BA1 BD1 BW1 HL TZ hb2 hb3 AX
  have hsm : ∀ X z z', Ts X z xl → Ts X z' xl → Calls Try.prog 7 #[At.v ⟨⟨xk, xn, xz⟩, xm, xl⟩ z, At.v ⟨⟨xk, xn, xz⟩, xm, xl⟩ z'] X fun e w' => e = .returned (.bool true) ∧ Below X.heap.size X w' := fun X z z' h h' => by
    have := same_any ⟨⟨xk, xn, xz⟩, xm, xl⟩ ⟨⟨xk, xn, xz⟩, xm, xl⟩ z z' X h h'
    rw [decide_eq_true rfl] at this
    exact this
  have HSM : Hid (∀ X z z', Ts X z xl → Ts X z' xl → Calls Try.prog 7 #[At.v ⟨⟨xk, xn, xz⟩, xm, xl⟩ z, At.v ⟨⟨xk, xn, xz⟩, xm, xl⟩ z'] X fun e w' => e = .returned (.bool true) ∧ Below X.heap.size X w') := hsm
  clear hsm
  go_cut [57] from 22 to 57 (fun s57 wx => s57 = .bool false ∧ Below W3.heap.size W3 wx)
  case first =>
    rcases HCS.out with ⟨rfl, -, -, -⟩ | ⟨rfl, hu⟩
    · clear HCS
      refine wp_region_held_drew (S := fun w' => Below W3.heap.size W3 w') (by kernel_rfl) (Below.refl _ _).drew (fun hH => ?_)
      revert hH
      generalize W3.drew = V
      intro hH
      refine wpAnyH_take (i := 0) (oi := ⟨_, _, _, _, _, _⟩) (v := .bool false) rfl (by kernel_rfl) (by kernel_rfl) (by kernel_rfl) (fun _ _ _ h => h) (Or.inl ⟨by rfl, fun w' _ => by go_simp⟩) hH ?_
      simp only [Act.put, List.setIfInBounds_toArray, List.set_cons_zero, List.set_cons_succ]
      refine wpAnyH_take (i := 1) (oi := ⟨_, _, _, _, _, _⟩) (v := .bool false) rfl (by kernel_rfl) (by kernel_rfl) (by kernel_rfl) (fun _ _ _ h => h) (Or.inl ⟨by rfl, fun w' _ => by go_simp⟩) hH ?_
      simp only [Act.put, List.setIfInBounds_toArray, List.set_cons_zero, List.set_cons_succ]
      refine wpAnyH_take (i := 2) (oi := ⟨_, _, _, _, _, _⟩) (v := undef) rfl (by kernel_rfl) (by kernel_rfl) (by kernel_rfl) (fun _ _ _ h => h) (Or.inr ⟨by rfl, rfl⟩) hH ?_
      simp only [Act.put, List.setIfInBounds_toArray, List.set_cons_zero, List.set_cons_succ]
      refine wpAnyH_take (i := 3) (oi := ⟨_, _, _, _, _, _⟩) (v := undef) rfl (by kernel_rfl) (by kernel_rfl) (by kernel_rfl) (fun _ _ _ h => h) (Or.inr ⟨by rfl, rfl⟩) hH ?_
      simp only [Act.put, List.setIfInBounds_toArray, List.set_cons_zero, List.set_cons_succ]
      refine wpAnyH_take (i := 4) (oi := ⟨_, _, _, _, _, _⟩) (v := undef) rfl (by kernel_rfl) (by kernel_rfl) (by kernel_rfl) (fun _ _ _ h => h) (Or.inr ⟨by rfl, rfl⟩) hH ?_
      simp only [Act.put, List.setIfInBounds_toArray, List.set_cons_zero, List.set_cons_succ]
      refine wpAnyH_take (i := 5) (oi := ⟨_, _, _, _, _, _⟩) (v := undef) rfl (by kernel_rfl) (by kernel_rfl) (by kernel_rfl) (fun _ _ _ h => h) (Or.inr ⟨by rfl, rfl⟩) hH ?_
      simp only [Act.put, List.setIfInBounds_toArray, List.set_cons_zero, List.set_cons_succ]
      refine wpAnyH_take (i := 6) (oi := ⟨_, _, _, _, _, _⟩) (v := undef) rfl (by kernel_rfl) (by kernel_rfl) (by kernel_rfl) (fun _ _ _ h => h) (Or.inr ⟨by rfl, rfl⟩) hH ?_
      simp only [Act.put, List.setIfInBounds_toArray, List.set_cons_zero, List.set_cons_succ]
      refine wpAnyH_take (i := 7) (oi := ⟨_, _, _, _, _, _⟩) (v := undef) rfl (by kernel_rfl) (by kernel_rfl) (by kernel_rfl) (fun _ _ _ h => h) (Or.inr ⟨by rfl, rfl⟩) hH ?_
      simp only [Act.put, List.setIfInBounds_toArray, List.set_cons_zero, List.set_cons_succ]
      refine wpAnyH_take (i := 8) (oi := ⟨_, _, _, _, _, _⟩) (v := undef) rfl (by kernel_rfl) (by kernel_rfl) (by kernel_rfl) (fun _ _ _ h => h) (Or.inr ⟨by rfl, rfl⟩) hH ?_
      simp only [Act.put, List.setIfInBounds_toArray, List.set_cons_zero, List.set_cons_succ]
      refine wpAnyH_take (i := 9) (oi := ⟨_, _, _, _, _, _⟩) (v := undef) rfl (by kernel_rfl) (by kernel_rfl) (by kernel_rfl) (fun _ _ _ h => h) (Or.inr ⟨by rfl, rfl⟩) hH ?_
      simp only [Act.put, List.setIfInBounds_toArray, List.set_cons_zero, List.set_cons_succ]
      refine wpAnyH_take (i := 10) (oi := ⟨_, _, _, _, _, _⟩) (v := undef) rfl (by kernel_rfl) (by kernel_rfl) (by kernel_rfl) (fun _ _ _ h => h) (Or.inr ⟨by rfl, rfl⟩) hH ?_
      simp only [Act.put, List.setIfInBounds_toArray, List.set_cons_zero, List.set_cons_succ]
      refine wpAnyH_take (i := 11) (oi := ⟨_, _, _, _, _, _⟩) (v := undef) rfl (by kernel_rfl) (by kernel_rfl) (by kernel_rfl) (fun _ _ _ h => h) (Or.inr ⟨by rfl, rfl⟩) hH ?_
      simp only [Act.put, List.setIfInBounds_toArray, List.set_cons_zero, List.set_cons_succ]
      refine wpAnyH_take (i := 12) (oi := ⟨_, _, _, _, _, _⟩) (v := undef) rfl (by kernel_rfl) (by kernel_rfl) (by kernel_rfl) (fun _ _ _ h => h) (Or.inr ⟨by rfl, rfl⟩) hH ?_
      simp only [Act.put, List.setIfInBounds_toArray, List.set_cons_zero, List.set_cons_succ]
      refine wpAnyH_take (i := 13) (oi := ⟨_, _, _, _, _, _⟩) (v := undef) rfl (by kernel_rfl) (by kernel_rfl) (by kernel_rfl) (fun _ _ _ h => h) (Or.inr ⟨by rfl, rfl⟩) hH ?_
      simp only [Act.put, List.setIfInBounds_toArray, List.set_cons_zero, List.set_cons_succ]
      refine wpAnyH_take (i := 14) (oi := ⟨_, _, _, _, _, _⟩) (v := undef) rfl (by kernel_rfl) (by kernel_rfl) (by kernel_rfl) (fun _ _ _ h => h) (Or.inr ⟨by rfl, rfl⟩) hH ?_
      simp only [Act.put, List.setIfInBounds_toArray, List.set_cons_zero, List.set_cons_succ]
      refine wpAnyH_take (i := 15) (oi := ⟨_, _, _, _, _, _⟩) (v := undef) rfl (by kernel_rfl) (by kernel_rfl) (by kernel_rfl) (fun _ _ _ h => h) (Or.inr ⟨by rfl, rfl⟩) hH ?_
      simp only [Act.put, List.setIfInBounds_toArray, List.set_cons_zero, List.set_cons_succ]
      refine wpAnyH_take (i := 16) (oi := ⟨_, _, _, _, _, _⟩) (v := undef) rfl (by kernel_rfl) (by kernel_rfl) (by kernel_rfl) (fun _ _ _ h => h) (Or.inr ⟨by rfl, rfl⟩) hH ?_
      simp only [Act.put, List.setIfInBounds_toArray, List.set_cons_zero, List.set_cons_succ]
      refine wpAnyH_take (i := 17) (oi := ⟨_, _, _, _, _, _⟩) (v := undef) rfl (by kernel_rfl) (by kernel_rfl) (by kernel_rfl) (fun _ _ _ h => h) (Or.inr ⟨by rfl, rfl⟩) hH ?_
      simp only [Act.put, List.setIfInBounds_toArray, List.set_cons_zero, List.set_cons_succ]
      refine wpAnyH_take (i := 18) (oi := ⟨_, _, _, _, _, _⟩) (v := undef) rfl (by kernel_rfl) (by kernel_rfl) (by kernel_rfl) (fun _ _ _ h => h) (Or.inr ⟨by rfl, rfl⟩) hH ?_
      simp only [Act.put, List.setIfInBounds_toArray, List.set_cons_zero, List.set_cons_succ]
      refine wpAnyH_take (i := 19) (oi := ⟨_, _, _, _, _, _⟩) (v := undef) rfl (by kernel_rfl) (by kernel_rfl) (by kernel_rfl) (fun _ _ _ h => h) (Or.inr ⟨by rfl, rfl⟩) hH ?_
      simp only [Act.put, List.setIfInBounds_toArray, List.set_cons_zero, List.set_cons_succ]
      refine wpAnyH_take (i := 20) (oi := ⟨_, _, _, _, _, _⟩) (v := undef) rfl (by kernel_rfl) (by kernel_rfl) (by kernel_rfl) (fun _ _ _ h => h) (Or.inr ⟨by rfl, rfl⟩) hH ?_
      simp only [Act.put, List.setIfInBounds_toArray, List.set_cons_zero, List.set_cons_succ]
      refine wpAnyH_take (i := 21) (oi := ⟨_, _, _, _, _, _⟩) (v := undef) rfl (by kernel_rfl) (by kernel_rfl) (by kernel_rfl) (fun _ _ _ h => h) (Or.inr ⟨by rfl, rfl⟩) hH ?_
      simp only [Act.put, List.setIfInBounds_toArray, List.set_cons_zero, List.set_cons_succ]
      refine wpAnyH_take (i := 22) (oi := ⟨_, _, _, _, _, _⟩) (v := undef) rfl (by kernel_rfl) (by kernel_rfl) (by kernel_rfl) (fun _ _ _ h => h) (Or.inr ⟨by rfl, rfl⟩) hH ?_
      simp only [Act.put, List.setIfInBounds_toArray, List.set_cons_zero, List.set_cons_succ]
      refine wpAnyH_take (i := 23) (oi := ⟨_, _, _, _, _, _⟩) (v := undef) rfl (by kernel_rfl) (by kernel_rfl) (by kernel_rfl) (fun _ _ _ h => h) (Or.inr ⟨by rfl, rfl⟩) hH ?_
      simp only [Act.put, List.setIfInBounds_toArray, List.set_cons_zero, List.set_cons_succ]
      refine wpAnyH_take (i := 24) (oi := ⟨_, _, _, _, _, _⟩) (v := undef) rfl (by kernel_rfl) (by kernel_rfl) (by kernel_rfl) (fun _ _ _ h => h) (Or.inr ⟨by rfl, rfl⟩) hH ?_
      simp only [Act.put, List.setIfInBounds_toArray, List.set_cons_zero, List.set_cons_succ]
      refine wpAnyH_take (i := 25) (oi := ⟨_, _, _, _, _, _⟩) (v := undef) rfl (by kernel_rfl) (by kernel_rfl) (by kernel_rfl) (fun _ _ _ h => h) (Or.inr ⟨by rfl, rfl⟩) hH ?_
      simp only [Act.put, List.setIfInBounds_toArray, List.set_cons_zero, List.set_cons_succ]
      refine wpAnyH_take (i := 26) (oi := ⟨_, _, _, _, _, _⟩) (v := undef) rfl (by kernel_rfl) (by kernel_rfl) (by kernel_rfl) (fun _ _ _ h => h) (Or.inr ⟨by rfl, rfl⟩) hH ?_
      simp only [Act.put, List.setIfInBounds_toArray, List.set_cons_zero, List.set_cons_succ]
      refine wpAnyH_take (i := 27) (oi := ⟨_, _, _, _, _, _⟩) (v := undef) rfl (by kernel_rfl) (by kernel_rfl) (by kernel_rfl) (fun _ _ _ h => h) (Or.inr ⟨by rfl, rfl⟩) hH ?_
      simp only [Act.put, List.setIfInBounds_toArray, List.set_cons_zero, List.set_cons_succ]
      refine wpAnyH_take (i := 28) (oi := ⟨_, _, _, _, _, _⟩) (v := undef) rfl (by kernel_rfl) (by kernel_rfl) (by kernel_rfl) (fun _ _ _ h => h) (Or.inr ⟨by rfl, rfl⟩) hH ?_
      simp only [Act.put, List.setIfInBounds_toArray, List.set_cons_zero, List.set_cons_succ]
      refine wpAnyH_take (i := 29) (oi := ⟨_, _, _, _, _, _⟩) (v := undef) rfl (by kernel_rfl) (by kernel_rfl) (by kernel_rfl) (fun _ _ _ h => h) (Or.inr ⟨by rfl, rfl⟩) hH ?_
      simp only [Act.put, List.setIfInBounds_toArray, List.set_cons_zero, List.set_cons_succ]
      refine wpAnyH_take (i := 30) (oi := ⟨_, _, _, _, _, _⟩) (v := undef) rfl (by kernel_rfl) (by kernel_rfl) (by kernel_rfl) (fun _ _ _ h => h) (Or.inr ⟨by rfl, rfl⟩) hH ?_
      simp only [Act.put, List.setIfInBounds_toArray, List.set_cons_zero, List.set_cons_succ]
      refine wpAnyH_take (i := 31) (oi := ⟨_, _, _, _, _, _⟩) (v := undef) rfl (by kernel_rfl) (by kernel_rfl) (by kernel_rfl) (fun _ _ _ h => h) (Or.inr ⟨by rfl, rfl⟩) hH ?_
      simp only [Act.put, List.setIfInBounds_toArray, List.set_cons_zero, List.set_cons_succ]
      refine wpAnyH_take (i := 32) (oi := ⟨_, _, _, _, _, _⟩) (v := undef) rfl (by kernel_rfl) (by kernel_rfl) (by kernel_rfl) (fun _ _ _ h => h) (Or.inr ⟨by rfl, rfl⟩) hH ?_
      simp only [Act.put, List.setIfInBounds_toArray, List.set_cons_zero, List.set_cons_succ]
      refine wpAnyH_take (i := 33) (oi := ⟨_, _, _, _, _, _⟩) (v := undef) rfl (by kernel_rfl) (by kernel_rfl) (by kernel_rfl) (fun _ _ _ h => h) (Or.inr ⟨by rfl, rfl⟩) hH ?_
      simp only [Act.put, List.setIfInBounds_toArray, List.set_cons_zero, List.set_cons_succ]
      refine wpAnyH_take (i := 34) (oi := ⟨_, _, _, _, _, _⟩) (v := undef) rfl (by kernel_rfl) (by kernel_rfl) (by kernel_rfl) (fun _ _ _ h => h) (Or.inr ⟨by rfl, rfl⟩) hH ?_
      simp only [Act.put, List.setIfInBounds_toArray, List.set_cons_zero, List.set_cons_succ]
      refine wpAnyH_take (i := 35) (oi := ⟨_, _, _, _, _, _⟩) (v := .bool false) rfl (by kernel_rfl) (by kernel_rfl) (by kernel_rfl) (fun _ _ _ h => h) (Or.inl ⟨by rfl, fun w' _ => by go_simp⟩) hH ?_
      simp only [Act.put, List.setIfInBounds_toArray, List.set_cons_zero, List.set_cons_succ]
      refine wpAnyH_done (by kernel_rfl) ?_ _
      go_wp2_with fail
      go_meet
      case rel => exact ⟨rfl, hH⟩
    · have hri := srt_rising hu.nd hu.srt
      have hab : ∀ X, Below W3.heap.size W3 X → Calls Try.prog 5 #[m, At.v ⟨⟨k', n', ss'⟩, nm', l'⟩ y] X fun e w' => ∃ z, e = .returned (At.v ⟨⟨xk, xn, xz⟩, xm, xl⟩ z) ∧ Ts w' z xl ∧ Below X.heap.size X w' := fun X h => by
        have := APB.out X m L (below_step (Hid.out BW3) h) (HL3.out X h)
        rw [← HD.out, ← hu.one, HXA.out] at this
        rw [HD.out] at this
        exact this
      have hax : ∀ X z, Below W3.heap.size W3 X → Ts X z xl → Calls Try.prog 5 #[m, At.v ⟨⟨xk, xn, xz⟩, xm, xl⟩ z] X fun e w' => ∃ z, e = .returned (At.v ⟨⟨xk, xn, xz⟩, xm, xl⟩ z) ∧ Ts w' z xl ∧ Below X.heap.size X w' := fun X z h hz => by
        have := APX.out X m L L z (HL3.out X h) (by rw [← HA.out, HXA.out]; exact hz)
        rw [← HA.out, mk'_mk' _ _ _ hu.twice, HXA.out] at this
        exact this
      have hfa : ∀ X, Below W3.heap.size W3 X → Calls Try.prog 8 #[m, Tm.v ⟨k, n, ss⟩] X fun e w' => e = .returned (.bool true) ∧ Below X.heap.size X w' := fun X h => by
        have := fits_any L m ⟨k, n, ss⟩ X (HL3.out X h)
        rw [show FitsB (become L) ⟨k, n, ss⟩ = true from by have := hu.fa; rw [HA.out] at this; exact this] at this
        exact this
      have hfb : ∀ X, Below W3.heap.size W3 X → Calls Try.prog 8 #[m, Tm.v ⟨k', n', ss'⟩] X fun e w' => e = .returned (.bool true) ∧ Below X.heap.size X w' := fun X h => by
        have := fits_any L m ⟨k', n', ss'⟩ X (HL3.out X h)
        rw [show FitsB (become L) ⟨k', n', ss'⟩ = true from by have := hu.fb; rw [HD.out] at this; exact this] at this
        exact this
      clear HCS hu
      refine wp_region_held_drew (S := fun w' => Below W3.heap.size W3 w') (by kernel_rfl) (Below.refl _ _).drew (fun hH => ?_)
      revert hH
      generalize W3.drew = V
      intro hH
      refine wpAnyH_take (i := 0) (oi := ⟨_, _, _, _, _, _⟩) (v := .bool true) rfl (by kernel_rfl) (by kernel_rfl) (by kernel_rfl) (fun _ _ _ h => h) (Or.inl ⟨by rfl, fun w' _ => by go_simp⟩) hH ?_
      simp only [Act.put, List.setIfInBounds_toArray, List.set_cons_zero, List.set_cons_succ]
      refine wpAnyH_take (i := 1) (oi := ⟨_, _, _, _, _, _⟩) (v := .bool true) rfl (by kernel_rfl) (by kernel_rfl) (by kernel_rfl) (fun _ _ _ h => h) (Or.inl ⟨by rfl, fun w' _ => by go_simp⟩) hH ?_
      simp only [Act.put, List.setIfInBounds_toArray, List.set_cons_zero, List.set_cons_succ]
      refine wpAnyH_take (i := 2) (oi := ⟨_, _, _, _, _, _⟩) (v := m) rfl (by kernel_rfl) (by kernel_rfl) (by kernel_rfl) (fun _ _ _ h => h) (Or.inl ⟨by rfl, fun w' _ => by go_simp⟩) hH ?_
      simp only [Act.put, List.setIfInBounds_toArray, List.set_cons_zero, List.set_cons_succ]
      refine wpAnyH_ready (rs := [3]) (by kernel_rfl) (by simp) ?_
      refine (AllReadyH.cons (o := ⟨_, _, _, _, _, _⟩) rfl (fun K hK => ?_) AllReadyH.nil)
      go_simp
      refine (rising_any L m _ (HL3.out _ hH) hri).mono ?_
      rintro e V1 ⟨rfl, hb1⟩
      refine hK.out _ _ (below_step hH hb1) (fun hH => ?_)
      clear hK K
      refine wpAnyH_take (i := 4) (oi := ⟨_, _, _, _, _, _⟩) (v := .bool false) rfl (by kernel_rfl) (by kernel_rfl) (by kernel_rfl) (fun _ _ _ h => h) (Or.inl ⟨by rfl, fun w' _ => by go_simp⟩) hH ?_
      simp only [Act.put, List.setIfInBounds_toArray, List.set_cons_zero, List.set_cons_succ]
      refine wpAnyH_take (i := 5) (oi := ⟨_, _, _, _, _, _⟩) (v := .bool false) rfl (by kernel_rfl) (by kernel_rfl) (by kernel_rfl) (fun _ _ _ h => h) (Or.inl ⟨by rfl, fun w' _ => by go_simp⟩) hH ?_
      simp only [Act.put, List.setIfInBounds_toArray, List.set_cons_zero, List.set_cons_succ]
      refine wpAnyH_take (i := 6) (oi := ⟨_, _, _, _, _, _⟩) (v := .agg #[.int .i64 xk, .int .i64 xn, .string xz, .string xm, .slice za xl.length zc]) rfl (by kernel_rfl) (by kernel_rfl) (by kernel_rfl) (fun _ _ _ h => h) (Or.inl ⟨by rfl, fun w' h => by obtain ⟨p0, p1, p2, p3, p4⟩ := five (Hid.out BX3); have z := Blk.lt (Hid.out BX3); have a0 := cell_step h z p0; have a1 := cell_step h z p1; have a2 := cell_step h z p2; have a3 := cell_step h z p3; have a4 := cell_step h z p4; clear p0 p1 p2 p3 p4; go_simp⟩) hH ?_
      simp only [Act.put, List.setIfInBounds_toArray, List.set_cons_zero, List.set_cons_succ]
      refine wpAnyH_take (i := 7) (oi := ⟨_, _, _, _, _, _⟩) (v := m) rfl (by kernel_rfl) (by kernel_rfl) (by kernel_rfl) (fun _ _ _ h => h) (Or.inl ⟨by rfl, fun w' _ => by go_simp⟩) hH ?_
      simp only [Act.put, List.setIfInBounds_toArray, List.set_cons_zero, List.set_cons_succ]
      refine wpAnyH_take (i := 8) (oi := ⟨_, _, _, _, _, _⟩) (v := .agg #[.int .i64 k', .int .i64 n', .string ss', .string nm', y]) rfl (by kernel_rfl) (by kernel_rfl) (by kernel_rfl) (fun _ _ _ h => h) (Or.inl ⟨by rfl, fun w' h => by obtain ⟨p0, p1, p2, p3, p4⟩ := five (Hid.out BD3); have z := Blk.lt (Hid.out BD3); have a0 := cell_step h z p0; have a1 := cell_step h z p1; have a2 := cell_step h z p2; have a3 := cell_step h z p3; have a4 := cell_step h z p4; clear p0 p1 p2 p3 p4; go_simp⟩) hH ?_
      simp only [Act.put, List.setIfInBounds_toArray, List.set_cons_zero, List.set_cons_succ]
      refine wpAnyH_ready (rs := [9]) (by kernel_rfl) (by simp) ?_
      refine (AllReadyH.cons (o := ⟨_, _, _, _, _, _⟩) rfl (fun K hK => ?_) AllReadyH.nil)
      go_simp
      refine (hab _ hH).mono ?_
      rintro e V2 ⟨z, rfl, tz, hb2⟩
      refine hK.out _ _ (below_step hH hb2) (fun hH => ?_)
      clear hK K
      refine wpAnyH_ready (rs := [10]) (by kernel_rfl) (by simp) ?_
      refine (AllReadyH.cons (o := ⟨_, _, _, _, _, _⟩) rfl (fun K hK => ?_) AllReadyH.nil)
      go_simp
      refine (HSM.out _ (.slice za xl.length zc) z (TX3.out.later hH) tz).mono ?_
      rintro e V3 ⟨rfl, hb3⟩
      refine hK.out _ _ (below_step hH hb3) (fun hH => ?_)
      clear hK K
      refine wpAnyH_take (i := 11) (oi := ⟨_, _, _, _, _, _⟩) (v := .bool false) rfl (by kernel_rfl) (by kernel_rfl) (by kernel_rfl) (fun _ _ _ h => h) (Or.inl ⟨by rfl, fun w' _ => by go_simp⟩) hH ?_
      simp only [Act.put, List.setIfInBounds_toArray, List.set_cons_zero, List.set_cons_succ]
      refine wpAnyH_take (i := 12) (oi := ⟨_, _, _, _, _, _⟩) (v := .bool false) rfl (by kernel_rfl) (by kernel_rfl) (by kernel_rfl) (fun _ _ _ h => h) (Or.inl ⟨by rfl, fun w' _ => by go_simp⟩) hH ?_
      simp only [Act.put, List.setIfInBounds_toArray, List.set_cons_zero, List.set_cons_succ]
      refine wpAnyH_take (i := 13) (oi := ⟨_, _, _, _, _, _⟩) (v := .bool false) rfl (by kernel_rfl) (by kernel_rfl) (by kernel_rfl) (fun _ _ _ h => h) (Or.inl ⟨by rfl, fun w' _ => by go_simp⟩) hH ?_
      simp only [Act.put, List.setIfInBounds_toArray, List.set_cons_zero, List.set_cons_succ]
      refine wpAnyH_take (i := 14) (oi := ⟨_, _, _, _, _, _⟩) (v := m) rfl (by kernel_rfl) (by kernel_rfl) (by kernel_rfl) (fun _ _ _ h => h) (Or.inl ⟨by rfl, fun w' _ => by go_simp⟩) hH ?_
      simp only [Act.put, List.setIfInBounds_toArray, List.set_cons_zero, List.set_cons_succ]
      refine wpAnyH_take (i := 15) (oi := ⟨_, _, _, _, _, _⟩) (v := .agg #[.int .i64 xk, .int .i64 xn, .string xz, .string xm, .slice za xl.length zc]) rfl (by kernel_rfl) (by kernel_rfl) (by kernel_rfl) (fun _ _ _ h => h) (Or.inl ⟨by rfl, fun w' h => by obtain ⟨p0, p1, p2, p3, p4⟩ := five (Hid.out BX3); have z := Blk.lt (Hid.out BX3); have a0 := cell_step h z p0; have a1 := cell_step h z p1; have a2 := cell_step h z p2; have a3 := cell_step h z p3; have a4 := cell_step h z p4; clear p0 p1 p2 p3 p4; go_simp⟩) hH ?_
      simp only [Act.put, List.setIfInBounds_toArray, List.set_cons_zero, List.set_cons_succ]
      refine wpAnyH_take (i := 17) (oi := ⟨_, _, _, _, _, _⟩) (v := .agg #[.int .i64 xk, .int .i64 xn, .string xz, .string xm, .slice za xl.length zc]) rfl (by kernel_rfl) (by kernel_rfl) (by kernel_rfl) (fun _ _ _ h => h) (Or.inl ⟨by rfl, fun w' h => by obtain ⟨p0, p1, p2, p3, p4⟩ := five (Hid.out BX3); have z := Blk.lt (Hid.out BX3); have a0 := cell_step h z p0; have a1 := cell_step h z p1; have a2 := cell_step h z p2; have a3 := cell_step h z p3; have a4 := cell_step h z p4; clear p0 p1 p2 p3 p4; go_simp⟩) hH ?_
      simp only [Act.put, List.setIfInBounds_toArray, List.set_cons_zero, List.set_cons_succ]
      refine wpAnyH_ready (rs := [16]) (by kernel_rfl) (by simp) ?_
      refine (AllReadyH.cons (o := ⟨_, _, _, _, _, _⟩) rfl (fun K hK => ?_) AllReadyH.nil)
      go_simp
      refine (hax _ (.slice za xl.length zc) hH (TX3.out.later hH)).mono ?_
      rintro e V4 ⟨z', rfl, tz', hb4⟩
      refine hK.out _ _ (below_step hH hb4) (fun hH => ?_)
      clear hK K
      refine wpAnyH_ready (rs := [18]) (by kernel_rfl) (by simp) ?_
      refine (AllReadyH.cons (o := ⟨_, _, _, _, _, _⟩) rfl (fun K hK => ?_) AllReadyH.nil)
      go_simp
      refine (HSM.out _ z' (.slice za xl.length zc) tz' (TX3.out.later hH)).mono ?_
      rintro e V5 ⟨rfl, hb5⟩
      refine hK.out _ _ (below_step hH hb5) (fun hH => ?_)
      clear hK K
      refine wpAnyH_take (i := 19) (oi := ⟨_, _, _, _, _, _⟩) (v := .bool false) rfl (by kernel_rfl) (by kernel_rfl) (by kernel_rfl) (fun _ _ _ h => h) (Or.inl ⟨by rfl, fun w' _ => by go_simp⟩) hH ?_
      simp only [Act.put, List.setIfInBounds_toArray, List.set_cons_zero, List.set_cons_succ]
      refine wpAnyH_take (i := 20) (oi := ⟨_, _, _, _, _, _⟩) (v := .bool false) rfl (by kernel_rfl) (by kernel_rfl) (by kernel_rfl) (fun _ _ _ h => h) (Or.inl ⟨by rfl, fun w' _ => by go_simp⟩) hH ?_
      simp only [Act.put, List.setIfInBounds_toArray, List.set_cons_zero, List.set_cons_succ]
      refine wpAnyH_take (i := 21) (oi := ⟨_, _, _, _, _, _⟩) (v := .bool false) rfl (by kernel_rfl) (by kernel_rfl) (by kernel_rfl) (fun _ _ _ h => h) (Or.inl ⟨by rfl, fun w' _ => by go_simp⟩) hH ?_
      simp only [Act.put, List.setIfInBounds_toArray, List.set_cons_zero, List.set_cons_succ]
      refine wpAnyH_take (i := 22) (oi := ⟨_, _, _, _, _, _⟩) (v := m) rfl (by kernel_rfl) (by kernel_rfl) (by kernel_rfl) (fun _ _ _ h => h) (Or.inl ⟨by rfl, fun w' _ => by go_simp⟩) hH ?_
      simp only [Act.put, List.setIfInBounds_toArray, List.set_cons_zero, List.set_cons_succ]
      refine wpAnyH_take (i := 23) (oi := ⟨_, _, _, _, _, _⟩) (v := .pointer (some ⟨w.heap.size, 0, none⟩)) rfl (by kernel_rfl) (by kernel_rfl) (by kernel_rfl) (fun _ _ _ h => h) (Or.inl ⟨by rfl, fun w' _ => by go_simp⟩) hH ?_
      simp only [Act.put, List.setIfInBounds_toArray, List.set_cons_zero, List.set_cons_succ]
      refine wpAnyH_take (i := 24) (oi := ⟨_, _, _, _, _, _⟩) (v := .agg #[.int .i64 k, .int .i64 n, .string ss]) rfl (by kernel_rfl) (by kernel_rfl) (by kernel_rfl) (fun _ _ _ h => h) (Or.inl ⟨by rfl, fun w' h => by obtain ⟨p0, p1, p2, p3, p4⟩ := five (Hid.out BA3); have z := Blk.lt (Hid.out BA3); have a0 := cell_step h z p0; have a1 := cell_step h z p1; have a2 := cell_step h z p2; have a3 := cell_step h z p3; have a4 := cell_step h z p4; clear p0 p1 p2 p3 p4; go_simp⟩) hH ?_
      simp only [Act.put, List.setIfInBounds_toArray, List.set_cons_zero, List.set_cons_succ]
      refine wpAnyH_ready (rs := [25]) (by kernel_rfl) (by simp) ?_
      refine (AllReadyH.cons (o := ⟨_, _, _, _, _, _⟩) rfl (fun K hK => ?_) AllReadyH.nil)
      go_simp
      refine (hfa _ hH).mono ?_
      rintro e V6 ⟨rfl, hb6⟩
      refine hK.out _ _ (below_step hH hb6) (fun hH => ?_)
      clear hK K
      refine wpAnyH_take (i := 26) (oi := ⟨_, _, _, _, _, _⟩) (v := .bool false) rfl (by kernel_rfl) (by kernel_rfl) (by kernel_rfl) (fun _ _ _ h => h) (Or.inl ⟨by rfl, fun w' _ => by go_simp⟩) hH ?_
      simp only [Act.put, List.setIfInBounds_toArray, List.set_cons_zero, List.set_cons_succ]
      refine wpAnyH_take (i := 27) (oi := ⟨_, _, _, _, _, _⟩) (v := .bool false) rfl (by kernel_rfl) (by kernel_rfl) (by kernel_rfl) (fun _ _ _ h => h) (Or.inl ⟨by rfl, fun w' _ => by go_simp⟩) hH ?_
      simp only [Act.put, List.setIfInBounds_toArray, List.set_cons_zero, List.set_cons_succ]
      refine wpAnyH_take (i := 28) (oi := ⟨_, _, _, _, _, _⟩) (v := .bool false) rfl (by kernel_rfl) (by kernel_rfl) (by kernel_rfl) (fun _ _ _ h => h) (Or.inl ⟨by rfl, fun w' _ => by go_simp⟩) hH ?_
      simp only [Act.put, List.setIfInBounds_toArray, List.set_cons_zero, List.set_cons_succ]
      refine wpAnyH_take (i := 29) (oi := ⟨_, _, _, _, _, _⟩) (v := m) rfl (by kernel_rfl) (by kernel_rfl) (by kernel_rfl) (fun _ _ _ h => h) (Or.inl ⟨by rfl, fun w' _ => by go_simp⟩) hH ?_
      simp only [Act.put, List.setIfInBounds_toArray, List.set_cons_zero, List.set_cons_succ]
      refine wpAnyH_take (i := 30) (oi := ⟨_, _, _, _, _, _⟩) (v := .pointer (some ⟨w.heap.size + 1, 0, none⟩)) rfl (by kernel_rfl) (by kernel_rfl) (by kernel_rfl) (fun _ _ _ h => h) (Or.inl ⟨by rfl, fun w' _ => by go_simp⟩) hH ?_
      simp only [Act.put, List.setIfInBounds_toArray, List.set_cons_zero, List.set_cons_succ]
      refine wpAnyH_take (i := 31) (oi := ⟨_, _, _, _, _, _⟩) (v := .agg #[.int .i64 k', .int .i64 n', .string ss']) rfl (by kernel_rfl) (by kernel_rfl) (by kernel_rfl) (fun _ _ _ h => h) (Or.inl ⟨by rfl, fun w' h => by obtain ⟨p0, p1, p2, p3, p4⟩ := five (Hid.out BD3); have z := Blk.lt (Hid.out BD3); have a0 := cell_step h z p0; have a1 := cell_step h z p1; have a2 := cell_step h z p2; have a3 := cell_step h z p3; have a4 := cell_step h z p4; clear p0 p1 p2 p3 p4; go_simp⟩) hH ?_
      simp only [Act.put, List.setIfInBounds_toArray, List.set_cons_zero, List.set_cons_succ]
      refine wpAnyH_ready (rs := [32]) (by kernel_rfl) (by simp) ?_
      refine (AllReadyH.cons (o := ⟨_, _, _, _, _, _⟩) rfl (fun K hK => ?_) AllReadyH.nil)
      go_simp
      refine (hfb _ hH).mono ?_
      rintro e V7 ⟨rfl, hb7⟩
      refine hK.out _ _ (below_step hH hb7) (fun hH => ?_)
      clear hK K
      refine wpAnyH_take (i := 33) (oi := ⟨_, _, _, _, _, _⟩) (v := .bool false) rfl (by kernel_rfl) (by kernel_rfl) (by kernel_rfl) (fun _ _ _ h => h) (Or.inl ⟨by rfl, fun w' _ => by go_simp⟩) hH ?_
      simp only [Act.put, List.setIfInBounds_toArray, List.set_cons_zero, List.set_cons_succ]
      refine wpAnyH_take (i := 34) (oi := ⟨_, _, _, _, _, _⟩) (v := .bool false) rfl (by kernel_rfl) (by kernel_rfl) (by kernel_rfl) (fun _ _ _ h => h) (Or.inl ⟨by rfl, fun w' _ => by go_simp⟩) hH ?_
      simp only [Act.put, List.setIfInBounds_toArray, List.set_cons_zero, List.set_cons_succ]
      refine wpAnyH_take (i := 35) (oi := ⟨_, _, _, _, _, _⟩) (v := .bool false) rfl (by kernel_rfl) (by kernel_rfl) (by kernel_rfl) (fun _ _ _ h => h) (Or.inl ⟨by rfl, fun w' _ => by go_simp⟩) hH ?_
      simp only [Act.put, List.setIfInBounds_toArray, List.set_cons_zero, List.set_cons_succ]
      refine wpAnyH_done (by kernel_rfl) ?_ _
      go_wp2_with fail
      go_meet
      case rel => exact ⟨rfl, hH⟩
  case rest =>
    obtain ⟨rfl, hbc⟩ := hcut
    have BX3 : Hid (Blk wc w2.heap.size #[.int .i64 xk, .int .i64 xn, .string xz, .string xm, .slice za xl.length zc] 26) := Blk.later (Hid.out BX3) hbc
    have BA3 : Hid (Blk wc w.heap.size #[.int .i64 k, .int .i64 n, .string ss, .string nm, x] 26) := Blk.later (Hid.out BA3) hbc
    have BD3 : Hid (Blk wc (w.heap.size + 1) #[.int .i64 k', .int .i64 n', .string ss', .string nm', y] 26) := Blk.later (Hid.out BD3) hbc
    have TX3 : Hid (Ts wc (.slice za xl.length zc) xl) := TX3.out.later hbc
    have BW3 : Hid (Below w.heap.size w wc) := below_step (Hid.out BW3) hbc
    have HL3 : Hid (∀ X, Below wc.heap.size wc X → Bs X m L) := fun X h => HL3.out X (below_step hbc h)
    clear hbc
    obtain ⟨W4, hW4⟩ : ∃ W4, W4 = wc := ⟨_, rfl⟩
    subst hW4
    go_upto_region 5 with fail
    go_cut [64] from 58 to 64 (fun s64 wx => s64 = .bool false ∧ wx = W4)
    case first =>
      rcases HCS.out with ⟨rfl, rfl, -, -⟩ | ⟨rfl, hu⟩
      all_goals
        clear HCS
        go_wp2_with fail
        go_meet
        case rel => exact ⟨rfl, rfl⟩
    case rest =>
      obtain ⟨rfl, rfl⟩ := hcut
      obtain ⟨p0, p1, p2, p3, p4⟩ := five (Hid.out BA3)
      go_upto_region 8 with (go_at_call 5; refine Calls.mono (AM.out _ (Hid.out BW3)) ?_; rintro e w5 ⟨z5, rfl, tz5, hb5⟩; have TZ5 : Hid (Ts w5 z5 ml) := tz5; obtain ⟨ma, mc, rfl, -, -⟩ := tz5)
      have BM6 := Blk.new w5 #[.int .i64 mk, .int .i64 mn, .string mz, .string mm, .slice ma ml.length mc] 26
      have hb6 := below1 w5 (.cells #[.int .i64 mk, .int .i64 mn, .string mz, .string mm, .slice ma ml.length mc] 26)
      revert BM6 hb6
      generalize w5.alloc (.cells #[.int .i64 mk, .int .i64 mn, .string mz, .string mm, .slice ma ml.length mc] 26) = W6
      intro BM6 hb6
      have BM6 : Hid (Blk W6 w5.heap.size #[.int .i64 mk, .int .i64 mn, .string mz, .string mm, .slice ma ml.length mc] 26) := BM6
      have BX6 : Hid (Blk W6 w2.heap.size #[.int .i64 xk, .int .i64 xn, .string xz, .string xm, .slice za xl.length zc] 26) := Blk.later (Blk.later (Hid.out BX3) hb5) hb6
      have BA6 : Hid (Blk W6 w.heap.size #[.int .i64 k, .int .i64 n, .string ss, .string nm, x] 26) := Blk.later (Blk.later (Hid.out BA3) hb5) hb6
      have BD6 : Hid (Blk W6 (w.heap.size + 1) #[.int .i64 k', .int .i64 n', .string ss', .string nm', y] 26) := Blk.later (Blk.later (Hid.out BD3) hb5) hb6
      have TX6 : Hid (Ts W6 (.slice za xl.length zc) xl) := (TX3.out.later hb5).later hb6
      have TM6 : Hid (Ts W6 (.slice ma ml.length mc) ml) := TZ5.out.later hb6
      have BW6 : Hid (Below w.heap.size w W6) := below_step (below_step (Hid.out BW3) hb5) hb6
      have HL6 : Hid (∀ X, Below W6.heap.size W6 X → Bs X m L) := fun X h => HL3.out X (below_step (below_step hb5 hb6) h)
      clear p0 p1 p2 p3 p4 BX3 BA3 BD3 TX3 TZ5 BW3 HL3 hb5 hb6 AM
      obtain ⟨ee, hee⟩ : ∃ c, decide (At.mk ⟨mk, mn, mz⟩ mm ml = At.mk ⟨dk, dn, dz⟩ dm dl) = c := ⟨_, rfl⟩
      obtain ⟨fa, hfa⟩ : ∃ c, FitsB (become s) ⟨k, n, ss⟩ = c := ⟨_, rfl⟩
      obtain ⟨fb, hfb⟩ : ∃ c, FitsB (become s) ⟨k', n', ss'⟩ = c := ⟨_, rfl⟩
      have HEE : Hid (decide (At.mk ⟨mk, mn, mz⟩ mm ml = At.mk ⟨dk, dn, dz⟩ dm dl) = ee) := hee
      have HFA : Hid (FitsB (become s) ⟨k, n, ss⟩ = fa) := hfa
      have HFB : Hid (FitsB (become s) ⟨k', n', ss'⟩ = fb) := hfb
      clear hee hfa hfb
      go_cut [84] from 68 to 84 (fun s84 wx => s84 = .bool (ee && (fa && fb)) ∧ Below W6.heap.size W6 wx)
      case first =>
        have hse : ∀ X z z', Ts X z ml → Ts X z' dl → Calls Try.prog 7 #[At.v ⟨⟨mk, mn, mz⟩, mm, ml⟩ z, At.v ⟨⟨dk, dn, dz⟩, dm, dl⟩ z'] X fun e w' => e = .returned (.bool ee) ∧ Below X.heap.size X w' := fun X z z' h h' => by
          have := same_any ⟨⟨mk, mn, mz⟩, mm, ml⟩ ⟨⟨dk, dn, dz⟩, dm, dl⟩ z z' X h h'
          rw [HEE.out] at this
          exact this
        have hfa : ∀ X, Below W6.heap.size W6 X → Calls Try.prog 8 #[v, Tm.v ⟨k, n, ss⟩] X fun e w' => e = .returned (.bool fa) ∧ Below X.heap.size X w' := fun X h => by
          have := fits_any s v ⟨k, n, ss⟩ X (HV.out.later (below_step (Hid.out BW6) h))
          rw [HFA.out] at this
          exact this
        have hfb : ∀ X, Below W6.heap.size W6 X → Calls Try.prog 8 #[v, Tm.v ⟨k', n', ss'⟩] X fun e w' => e = .returned (.bool fb) ∧ Below X.heap.size X w' := fun X h => by
          have := fits_any s v ⟨k', n', ss'⟩ X (HV.out.later (below_step (Hid.out BW6) h))
          rw [HFB.out] at this
          exact this
        clear HCS
        cases ee
        · skip
          refine wp_region_held_drew (S := fun w' => Below W6.heap.size W6 w') (by kernel_rfl) (Below.refl _ _).drew (fun hH => ?_)
          revert hH
          generalize W6.drew = V
          intro hH
          refine wpAnyH_take (i := 0) (oi := ⟨_, _, _, _, _, _⟩) (v := .agg #[.int .i64 mk, .int .i64 mn, .string mz, .string mm, .slice ma ml.length mc]) rfl (by kernel_rfl) (by kernel_rfl) (by kernel_rfl) (fun _ _ _ h => h) (Or.inl ⟨by rfl, fun w' h => by obtain ⟨p0, p1, p2, p3, p4⟩ := five (Hid.out BM6); have z := Blk.lt (Hid.out BM6); have a0 := cell_step h z p0; have a1 := cell_step h z p1; have a2 := cell_step h z p2; have a3 := cell_step h z p3; have a4 := cell_step h z p4; clear p0 p1 p2 p3 p4; go_simp⟩) hH ?_
          simp only [Act.put, List.setIfInBounds_toArray, List.set_cons_zero, List.set_cons_succ]
          refine wpAnyH_take (i := 1) (oi := ⟨_, _, _, _, _, _⟩) (v := v) rfl (by kernel_rfl) (by kernel_rfl) (by kernel_rfl) (fun _ _ _ h => h) (Or.inl ⟨by rfl, fun w' _ => by go_simp⟩) hH ?_
          simp only [Act.put, List.setIfInBounds_toArray, List.set_cons_zero, List.set_cons_succ]
          refine wpAnyH_take (i := 2) (oi := ⟨_, _, _, _, _, _⟩) (v := .agg #[.int .i64 k', .int .i64 n', .string ss', .string nm', y]) rfl (by kernel_rfl) (by kernel_rfl) (by kernel_rfl) (fun _ _ _ h => h) (Or.inl ⟨by rfl, fun w' h => by obtain ⟨p0, p1, p2, p3, p4⟩ := five (Hid.out BD6); have z := Blk.lt (Hid.out BD6); have a0 := cell_step h z p0; have a1 := cell_step h z p1; have a2 := cell_step h z p2; have a3 := cell_step h z p3; have a4 := cell_step h z p4; clear p0 p1 p2 p3 p4; go_simp⟩) hH ?_
          simp only [Act.put, List.setIfInBounds_toArray, List.set_cons_zero, List.set_cons_succ]
          refine wpAnyH_ready (rs := [3]) (by kernel_rfl) (by simp) ?_
          refine (AllReadyH.cons (o := ⟨_, _, _, _, _, _⟩) rfl (fun K hK => ?_) AllReadyH.nil)
          go_simp
          refine (Calls.mono (BM.out _ (below_step (Hid.out BW6) hH)) (fun _ _ h => h)).mono ?_
          rintro e V1 ⟨z, rfl, tz, hb1⟩
          refine hK.out _ _ (below_step hH hb1) (fun hH => ?_)
          clear hK K
          refine wpAnyH_ready (rs := [4]) (by kernel_rfl) (by simp) ?_
          refine (AllReadyH.cons (o := ⟨_, _, _, _, _, _⟩) rfl (fun K hK => ?_) AllReadyH.nil)
          go_simp
          refine (hse _ (.slice ma ml.length mc) z (TM6.out.later hH) tz).mono ?_
          rintro e V2 ⟨rfl, hb2⟩
          refine hK.out _ _ (below_step hH hb2) (fun hH => ?_)
          clear hK K
          refine wpAnyH_take (i := 5) (oi := ⟨_, _, _, _, _, _⟩) (v := .bool false) rfl (by kernel_rfl) (by kernel_rfl) (by kernel_rfl) (fun _ _ _ h => h) (Or.inl ⟨by rfl, fun w' _ => by go_simp⟩) hH ?_
          simp only [Act.put, List.setIfInBounds_toArray, List.set_cons_zero, List.set_cons_succ]
          refine wpAnyH_take (i := 6) (oi := ⟨_, _, _, _, _, _⟩) (v := undef) rfl (by kernel_rfl) (by kernel_rfl) (by kernel_rfl) (fun _ _ _ h => h) (Or.inr ⟨by rfl, rfl⟩) hH ?_
          simp only [Act.put, List.setIfInBounds_toArray, List.set_cons_zero, List.set_cons_succ]
          refine wpAnyH_take (i := 7) (oi := ⟨_, _, _, _, _, _⟩) (v := undef) rfl (by kernel_rfl) (by kernel_rfl) (by kernel_rfl) (fun _ _ _ h => h) (Or.inr ⟨by rfl, rfl⟩) hH ?_
          simp only [Act.put, List.setIfInBounds_toArray, List.set_cons_zero, List.set_cons_succ]
          refine wpAnyH_take (i := 8) (oi := ⟨_, _, _, _, _, _⟩) (v := undef) rfl (by kernel_rfl) (by kernel_rfl) (by kernel_rfl) (fun _ _ _ h => h) (Or.inr ⟨by rfl, rfl⟩) hH ?_
          simp only [Act.put, List.setIfInBounds_toArray, List.set_cons_zero, List.set_cons_succ]
          refine wpAnyH_take (i := 9) (oi := ⟨_, _, _, _, _, _⟩) (v := undef) rfl (by kernel_rfl) (by kernel_rfl) (by kernel_rfl) (fun _ _ _ h => h) (Or.inr ⟨by rfl, rfl⟩) hH ?_
          simp only [Act.put, List.setIfInBounds_toArray, List.set_cons_zero, List.set_cons_succ]
          refine wpAnyH_take (i := 10) (oi := ⟨_, _, _, _, _, _⟩) (v := .bool false) rfl (by kernel_rfl) (by kernel_rfl) (by kernel_rfl) (fun _ _ _ h => h) (Or.inl ⟨by rfl, fun w' _ => by go_simp⟩) hH ?_
          simp only [Act.put, List.setIfInBounds_toArray, List.set_cons_zero, List.set_cons_succ]
          refine wpAnyH_take (i := 11) (oi := ⟨_, _, _, _, _, _⟩) (v := .bool false) rfl (by kernel_rfl) (by kernel_rfl) (by kernel_rfl) (fun _ _ _ h => h) (Or.inl ⟨by rfl, fun w' _ => by go_simp⟩) hH ?_
          simp only [Act.put, List.setIfInBounds_toArray, List.set_cons_zero, List.set_cons_succ]
          refine wpAnyH_take (i := 12) (oi := ⟨_, _, _, _, _, _⟩) (v := undef) rfl (by kernel_rfl) (by kernel_rfl) (by kernel_rfl) (fun _ _ _ h => h) (Or.inr ⟨by rfl, rfl⟩) hH ?_
          simp only [Act.put, List.setIfInBounds_toArray, List.set_cons_zero, List.set_cons_succ]
          refine wpAnyH_take (i := 13) (oi := ⟨_, _, _, _, _, _⟩) (v := undef) rfl (by kernel_rfl) (by kernel_rfl) (by kernel_rfl) (fun _ _ _ h => h) (Or.inr ⟨by rfl, rfl⟩) hH ?_
          simp only [Act.put, List.setIfInBounds_toArray, List.set_cons_zero, List.set_cons_succ]
          refine wpAnyH_take (i := 14) (oi := ⟨_, _, _, _, _, _⟩) (v := undef) rfl (by kernel_rfl) (by kernel_rfl) (by kernel_rfl) (fun _ _ _ h => h) (Or.inr ⟨by rfl, rfl⟩) hH ?_
          simp only [Act.put, List.setIfInBounds_toArray, List.set_cons_zero, List.set_cons_succ]
          refine wpAnyH_take (i := 15) (oi := ⟨_, _, _, _, _, _⟩) (v := undef) rfl (by kernel_rfl) (by kernel_rfl) (by kernel_rfl) (fun _ _ _ h => h) (Or.inr ⟨by rfl, rfl⟩) hH ?_
          simp only [Act.put, List.setIfInBounds_toArray, List.set_cons_zero, List.set_cons_succ]
          refine wpAnyH_take (i := 16) (oi := ⟨_, _, _, _, _, _⟩) (v := .bool false) rfl (by kernel_rfl) (by kernel_rfl) (by kernel_rfl) (fun _ _ _ h => h) (Or.inl ⟨by rfl, fun w' _ => by go_simp⟩) hH ?_
          simp only [Act.put, List.setIfInBounds_toArray, List.set_cons_zero, List.set_cons_succ]
          refine wpAnyH_done (by kernel_rfl) ?_ _
          go_wp2_with fail
          go_meet
          case rel => exact ⟨rfl, hH⟩
        · cases fa
          · skip
            refine wp_region_held_drew (S := fun w' => Below W6.heap.size W6 w') (by kernel_rfl) (Below.refl _ _).drew (fun hH => ?_)
            revert hH
            generalize W6.drew = V
            intro hH
            refine wpAnyH_take (i := 0) (oi := ⟨_, _, _, _, _, _⟩) (v := .agg #[.int .i64 mk, .int .i64 mn, .string mz, .string mm, .slice ma ml.length mc]) rfl (by kernel_rfl) (by kernel_rfl) (by kernel_rfl) (fun _ _ _ h => h) (Or.inl ⟨by rfl, fun w' h => by obtain ⟨p0, p1, p2, p3, p4⟩ := five (Hid.out BM6); have z := Blk.lt (Hid.out BM6); have a0 := cell_step h z p0; have a1 := cell_step h z p1; have a2 := cell_step h z p2; have a3 := cell_step h z p3; have a4 := cell_step h z p4; clear p0 p1 p2 p3 p4; go_simp⟩) hH ?_
            simp only [Act.put, List.setIfInBounds_toArray, List.set_cons_zero, List.set_cons_succ]
            refine wpAnyH_take (i := 1) (oi := ⟨_, _, _, _, _, _⟩) (v := v) rfl (by kernel_rfl) (by kernel_rfl) (by kernel_rfl) (fun _ _ _ h => h) (Or.inl ⟨by rfl, fun w' _ => by go_simp⟩) hH ?_
            simp only [Act.put, List.setIfInBounds_toArray, List.set_cons_zero, List.set_cons_succ]
            refine wpAnyH_take (i := 2) (oi := ⟨_, _, _, _, _, _⟩) (v := .agg #[.int .i64 k', .int .i64 n', .string ss', .string nm', y]) rfl (by kernel_rfl) (by kernel_rfl) (by kernel_rfl) (fun _ _ _ h => h) (Or.inl ⟨by rfl, fun w' h => by obtain ⟨p0, p1, p2, p3, p4⟩ := five (Hid.out BD6); have z := Blk.lt (Hid.out BD6); have a0 := cell_step h z p0; have a1 := cell_step h z p1; have a2 := cell_step h z p2; have a3 := cell_step h z p3; have a4 := cell_step h z p4; clear p0 p1 p2 p3 p4; go_simp⟩) hH ?_
            simp only [Act.put, List.setIfInBounds_toArray, List.set_cons_zero, List.set_cons_succ]
            refine wpAnyH_ready (rs := [3]) (by kernel_rfl) (by simp) ?_
            refine (AllReadyH.cons (o := ⟨_, _, _, _, _, _⟩) rfl (fun K hK => ?_) AllReadyH.nil)
            go_simp
            refine (Calls.mono (BM.out _ (below_step (Hid.out BW6) hH)) (fun _ _ h => h)).mono ?_
            rintro e V1 ⟨z, rfl, tz, hb1⟩
            refine hK.out _ _ (below_step hH hb1) (fun hH => ?_)
            clear hK K
            refine wpAnyH_ready (rs := [4]) (by kernel_rfl) (by simp) ?_
            refine (AllReadyH.cons (o := ⟨_, _, _, _, _, _⟩) rfl (fun K hK => ?_) AllReadyH.nil)
            go_simp
            refine (hse _ (.slice ma ml.length mc) z (TM6.out.later hH) tz).mono ?_
            rintro e V2 ⟨rfl, hb2⟩
            refine hK.out _ _ (below_step hH hb2) (fun hH => ?_)
            clear hK K
            refine wpAnyH_take (i := 5) (oi := ⟨_, _, _, _, _, _⟩) (v := .bool true) rfl (by kernel_rfl) (by kernel_rfl) (by kernel_rfl) (fun _ _ _ h => h) (Or.inl ⟨by rfl, fun w' _ => by go_simp⟩) hH ?_
            simp only [Act.put, List.setIfInBounds_toArray, List.set_cons_zero, List.set_cons_succ]
            refine wpAnyH_take (i := 6) (oi := ⟨_, _, _, _, _, _⟩) (v := v) rfl (by kernel_rfl) (by kernel_rfl) (by kernel_rfl) (fun _ _ _ h => h) (Or.inl ⟨by rfl, fun w' _ => by go_simp⟩) hH ?_
            simp only [Act.put, List.setIfInBounds_toArray, List.set_cons_zero, List.set_cons_succ]
            refine wpAnyH_take (i := 7) (oi := ⟨_, _, _, _, _, _⟩) (v := .pointer (some ⟨w.heap.size, 0, none⟩)) rfl (by kernel_rfl) (by kernel_rfl) (by kernel_rfl) (fun _ _ _ h => h) (Or.inl ⟨by rfl, fun w' _ => by go_simp⟩) hH ?_
            simp only [Act.put, List.setIfInBounds_toArray, List.set_cons_zero, List.set_cons_succ]
            refine wpAnyH_take (i := 8) (oi := ⟨_, _, _, _, _, _⟩) (v := .agg #[.int .i64 k, .int .i64 n, .string ss]) rfl (by kernel_rfl) (by kernel_rfl) (by kernel_rfl) (fun _ _ _ h => h) (Or.inl ⟨by rfl, fun w' h => by obtain ⟨p0, p1, p2, p3, p4⟩ := five (Hid.out BA6); have z := Blk.lt (Hid.out BA6); have a0 := cell_step h z p0; have a1 := cell_step h z p1; have a2 := cell_step h z p2; have a3 := cell_step h z p3; have a4 := cell_step h z p4; clear p0 p1 p2 p3 p4; go_simp⟩) hH ?_
            simp only [Act.put, List.setIfInBounds_toArray, List.set_cons_zero, List.set_cons_succ]
            refine wpAnyH_ready (rs := [9]) (by kernel_rfl) (by simp) ?_
            refine (AllReadyH.cons (o := ⟨_, _, _, _, _, _⟩) rfl (fun K hK => ?_) AllReadyH.nil)
            go_simp
            refine (hfa _ hH).mono ?_
            rintro e V3 ⟨rfl, hb3⟩
            refine hK.out _ _ (below_step hH hb3) (fun hH => ?_)
            clear hK K
            refine wpAnyH_take (i := 10) (oi := ⟨_, _, _, _, _, _⟩) (v := .bool false) rfl (by kernel_rfl) (by kernel_rfl) (by kernel_rfl) (fun _ _ _ h => h) (Or.inl ⟨by rfl, fun w' _ => by go_simp⟩) hH ?_
            simp only [Act.put, List.setIfInBounds_toArray, List.set_cons_zero, List.set_cons_succ]
            refine wpAnyH_take (i := 11) (oi := ⟨_, _, _, _, _, _⟩) (v := .bool false) rfl (by kernel_rfl) (by kernel_rfl) (by kernel_rfl) (fun _ _ _ h => h) (Or.inl ⟨by rfl, fun w' _ => by go_simp⟩) hH ?_
            simp only [Act.put, List.setIfInBounds_toArray, List.set_cons_zero, List.set_cons_succ]
            refine wpAnyH_take (i := 12) (oi := ⟨_, _, _, _, _, _⟩) (v := undef) rfl (by kernel_rfl) (by kernel_rfl) (by kernel_rfl) (fun _ _ _ h => h) (Or.inr ⟨by rfl, rfl⟩) hH ?_
            simp only [Act.put, List.setIfInBounds_toArray, List.set_cons_zero, List.set_cons_succ]
            refine wpAnyH_take (i := 13) (oi := ⟨_, _, _, _, _, _⟩) (v := undef) rfl (by kernel_rfl) (by kernel_rfl) (by kernel_rfl) (fun _ _ _ h => h) (Or.inr ⟨by rfl, rfl⟩) hH ?_
            simp only [Act.put, List.setIfInBounds_toArray, List.set_cons_zero, List.set_cons_succ]
            refine wpAnyH_take (i := 14) (oi := ⟨_, _, _, _, _, _⟩) (v := undef) rfl (by kernel_rfl) (by kernel_rfl) (by kernel_rfl) (fun _ _ _ h => h) (Or.inr ⟨by rfl, rfl⟩) hH ?_
            simp only [Act.put, List.setIfInBounds_toArray, List.set_cons_zero, List.set_cons_succ]
            refine wpAnyH_take (i := 15) (oi := ⟨_, _, _, _, _, _⟩) (v := undef) rfl (by kernel_rfl) (by kernel_rfl) (by kernel_rfl) (fun _ _ _ h => h) (Or.inr ⟨by rfl, rfl⟩) hH ?_
            simp only [Act.put, List.setIfInBounds_toArray, List.set_cons_zero, List.set_cons_succ]
            refine wpAnyH_take (i := 16) (oi := ⟨_, _, _, _, _, _⟩) (v := .bool false) rfl (by kernel_rfl) (by kernel_rfl) (by kernel_rfl) (fun _ _ _ h => h) (Or.inl ⟨by rfl, fun w' _ => by go_simp⟩) hH ?_
            simp only [Act.put, List.setIfInBounds_toArray, List.set_cons_zero, List.set_cons_succ]
            refine wpAnyH_done (by kernel_rfl) ?_ _
            go_wp2_with fail
            go_meet
            case rel => exact ⟨rfl, hH⟩
          · skip
            refine wp_region_held_drew (S := fun w' => Below W6.heap.size W6 w') (by kernel_rfl) (Below.refl _ _).drew (fun hH => ?_)
            revert hH
            generalize W6.drew = V
            intro hH
            refine wpAnyH_take (i := 0) (oi := ⟨_, _, _, _, _, _⟩) (v := .agg #[.int .i64 mk, .int .i64 mn, .string mz, .string mm, .slice ma ml.length mc]) rfl (by kernel_rfl) (by kernel_rfl) (by kernel_rfl) (fun _ _ _ h => h) (Or.inl ⟨by rfl, fun w' h => by obtain ⟨p0, p1, p2, p3, p4⟩ := five (Hid.out BM6); have z := Blk.lt (Hid.out BM6); have a0 := cell_step h z p0; have a1 := cell_step h z p1; have a2 := cell_step h z p2; have a3 := cell_step h z p3; have a4 := cell_step h z p4; clear p0 p1 p2 p3 p4; go_simp⟩) hH ?_
            simp only [Act.put, List.setIfInBounds_toArray, List.set_cons_zero, List.set_cons_succ]
            refine wpAnyH_take (i := 1) (oi := ⟨_, _, _, _, _, _⟩) (v := v) rfl (by kernel_rfl) (by kernel_rfl) (by kernel_rfl) (fun _ _ _ h => h) (Or.inl ⟨by rfl, fun w' _ => by go_simp⟩) hH ?_
            simp only [Act.put, List.setIfInBounds_toArray, List.set_cons_zero, List.set_cons_succ]
            refine wpAnyH_take (i := 2) (oi := ⟨_, _, _, _, _, _⟩) (v := .agg #[.int .i64 k', .int .i64 n', .string ss', .string nm', y]) rfl (by kernel_rfl) (by kernel_rfl) (by kernel_rfl) (fun _ _ _ h => h) (Or.inl ⟨by rfl, fun w' h => by obtain ⟨p0, p1, p2, p3, p4⟩ := five (Hid.out BD6); have z := Blk.lt (Hid.out BD6); have a0 := cell_step h z p0; have a1 := cell_step h z p1; have a2 := cell_step h z p2; have a3 := cell_step h z p3; have a4 := cell_step h z p4; clear p0 p1 p2 p3 p4; go_simp⟩) hH ?_
            simp only [Act.put, List.setIfInBounds_toArray, List.set_cons_zero, List.set_cons_succ]
            refine wpAnyH_ready (rs := [3]) (by kernel_rfl) (by simp) ?_
            refine (AllReadyH.cons (o := ⟨_, _, _, _, _, _⟩) rfl (fun K hK => ?_) AllReadyH.nil)
            go_simp
            refine (Calls.mono (BM.out _ (below_step (Hid.out BW6) hH)) (fun _ _ h => h)).mono ?_
            rintro e V1 ⟨z, rfl, tz, hb1⟩
            refine hK.out _ _ (below_step hH hb1) (fun hH => ?_)
            clear hK K
            refine wpAnyH_ready (rs := [4]) (by kernel_rfl) (by simp) ?_
            refine (AllReadyH.cons (o := ⟨_, _, _, _, _, _⟩) rfl (fun K hK => ?_) AllReadyH.nil)
            go_simp
            refine (hse _ (.slice ma ml.length mc) z (TM6.out.later hH) tz).mono ?_
            rintro e V2 ⟨rfl, hb2⟩
            refine hK.out _ _ (below_step hH hb2) (fun hH => ?_)
            clear hK K
            refine wpAnyH_take (i := 5) (oi := ⟨_, _, _, _, _, _⟩) (v := .bool true) rfl (by kernel_rfl) (by kernel_rfl) (by kernel_rfl) (fun _ _ _ h => h) (Or.inl ⟨by rfl, fun w' _ => by go_simp⟩) hH ?_
            simp only [Act.put, List.setIfInBounds_toArray, List.set_cons_zero, List.set_cons_succ]
            refine wpAnyH_take (i := 6) (oi := ⟨_, _, _, _, _, _⟩) (v := v) rfl (by kernel_rfl) (by kernel_rfl) (by kernel_rfl) (fun _ _ _ h => h) (Or.inl ⟨by rfl, fun w' _ => by go_simp⟩) hH ?_
            simp only [Act.put, List.setIfInBounds_toArray, List.set_cons_zero, List.set_cons_succ]
            refine wpAnyH_take (i := 7) (oi := ⟨_, _, _, _, _, _⟩) (v := .pointer (some ⟨w.heap.size, 0, none⟩)) rfl (by kernel_rfl) (by kernel_rfl) (by kernel_rfl) (fun _ _ _ h => h) (Or.inl ⟨by rfl, fun w' _ => by go_simp⟩) hH ?_
            simp only [Act.put, List.setIfInBounds_toArray, List.set_cons_zero, List.set_cons_succ]
            refine wpAnyH_take (i := 8) (oi := ⟨_, _, _, _, _, _⟩) (v := .agg #[.int .i64 k, .int .i64 n, .string ss]) rfl (by kernel_rfl) (by kernel_rfl) (by kernel_rfl) (fun _ _ _ h => h) (Or.inl ⟨by rfl, fun w' h => by obtain ⟨p0, p1, p2, p3, p4⟩ := five (Hid.out BA6); have z := Blk.lt (Hid.out BA6); have a0 := cell_step h z p0; have a1 := cell_step h z p1; have a2 := cell_step h z p2; have a3 := cell_step h z p3; have a4 := cell_step h z p4; clear p0 p1 p2 p3 p4; go_simp⟩) hH ?_
            simp only [Act.put, List.setIfInBounds_toArray, List.set_cons_zero, List.set_cons_succ]
            refine wpAnyH_ready (rs := [9]) (by kernel_rfl) (by simp) ?_
            refine (AllReadyH.cons (o := ⟨_, _, _, _, _, _⟩) rfl (fun K hK => ?_) AllReadyH.nil)
            go_simp
            refine (hfa _ hH).mono ?_
            rintro e V3 ⟨rfl, hb3⟩
            refine hK.out _ _ (below_step hH hb3) (fun hH => ?_)
            clear hK K
            refine wpAnyH_take (i := 10) (oi := ⟨_, _, _, _, _, _⟩) (v := .bool true) rfl (by kernel_rfl) (by kernel_rfl) (by kernel_rfl) (fun _ _ _ h => h) (Or.inl ⟨by rfl, fun w' _ => by go_simp⟩) hH ?_
            simp only [Act.put, List.setIfInBounds_toArray, List.set_cons_zero, List.set_cons_succ]
            refine wpAnyH_take (i := 11) (oi := ⟨_, _, _, _, _, _⟩) (v := .bool true) rfl (by kernel_rfl) (by kernel_rfl) (by kernel_rfl) (fun _ _ _ h => h) (Or.inl ⟨by rfl, fun w' _ => by go_simp⟩) hH ?_
            simp only [Act.put, List.setIfInBounds_toArray, List.set_cons_zero, List.set_cons_succ]
            refine wpAnyH_take (i := 12) (oi := ⟨_, _, _, _, _, _⟩) (v := v) rfl (by kernel_rfl) (by kernel_rfl) (by kernel_rfl) (fun _ _ _ h => h) (Or.inl ⟨by rfl, fun w' _ => by go_simp⟩) hH ?_
            simp only [Act.put, List.setIfInBounds_toArray, List.set_cons_zero, List.set_cons_succ]
            refine wpAnyH_take (i := 13) (oi := ⟨_, _, _, _, _, _⟩) (v := .pointer (some ⟨w.heap.size + 1, 0, none⟩)) rfl (by kernel_rfl) (by kernel_rfl) (by kernel_rfl) (fun _ _ _ h => h) (Or.inl ⟨by rfl, fun w' _ => by go_simp⟩) hH ?_
            simp only [Act.put, List.setIfInBounds_toArray, List.set_cons_zero, List.set_cons_succ]
            refine wpAnyH_take (i := 14) (oi := ⟨_, _, _, _, _, _⟩) (v := .agg #[.int .i64 k', .int .i64 n', .string ss']) rfl (by kernel_rfl) (by kernel_rfl) (by kernel_rfl) (fun _ _ _ h => h) (Or.inl ⟨by rfl, fun w' h => by obtain ⟨p0, p1, p2, p3, p4⟩ := five (Hid.out BD6); have z := Blk.lt (Hid.out BD6); have a0 := cell_step h z p0; have a1 := cell_step h z p1; have a2 := cell_step h z p2; have a3 := cell_step h z p3; have a4 := cell_step h z p4; clear p0 p1 p2 p3 p4; go_simp⟩) hH ?_
            simp only [Act.put, List.setIfInBounds_toArray, List.set_cons_zero, List.set_cons_succ]
            refine wpAnyH_ready (rs := [15]) (by kernel_rfl) (by simp) ?_
            refine (AllReadyH.cons (o := ⟨_, _, _, _, _, _⟩) rfl (fun K hK => ?_) AllReadyH.nil)
            go_simp
            refine (hfb _ hH).mono ?_
            rintro e V4 ⟨rfl, hb4⟩
            refine hK.out _ _ (below_step hH hb4) (fun hH => ?_)
            clear hK K
            refine wpAnyH_take (i := 16) (oi := ⟨_, _, _, _, _, _⟩) (v := .bool fb) rfl (by kernel_rfl) (by kernel_rfl) (by kernel_rfl) (fun _ _ _ h => h) (Or.inl ⟨by rfl, fun w' _ => by go_simp⟩) hH ?_
            simp only [Act.put, List.setIfInBounds_toArray, List.set_cons_zero, List.set_cons_succ]
            refine wpAnyH_done (by kernel_rfl) ?_ _
            go_wp2_with fail
            go_meet
            case rel => exact ⟨rfl, hH⟩
      case rest =>
        obtain ⟨rfl, hbc⟩ := hcut
        have BM6 : Hid (Blk wc w5.heap.size #[.int .i64 mk, .int .i64 mn, .string mz, .string mm, .slice ma ml.length mc] 26) := Blk.later (Hid.out BM6) hbc
        have BX6 : Hid (Blk wc w2.heap.size #[.int .i64 xk, .int .i64 xn, .string xz, .string xm, .slice za xl.length zc] 26) := Blk.later (Hid.out BX6) hbc
        have BA6 : Hid (Blk wc w.heap.size #[.int .i64 k, .int .i64 n, .string ss, .string nm, x] 26) := Blk.later (Hid.out BA6) hbc
        have BD6 : Hid (Blk wc (w.heap.size + 1) #[.int .i64 k', .int .i64 n', .string ss', .string nm', y] 26) := Blk.later (Hid.out BD6) hbc
        have TX6 : Hid (Ts wc (.slice za xl.length zc) xl) := TX6.out.later hbc
        have TM6 : Hid (Ts wc (.slice ma ml.length mc) ml) := TM6.out.later hbc
        have BW6 : Hid (Below w.heap.size w wc) := below_step (Hid.out BW6) hbc
        have HL6 : Hid (∀ X, Below wc.heap.size wc X → Bs X m L) := fun X h => HL6.out X (below_step hbc h)
        clear hbc
        obtain ⟨W7, hW7⟩ : ∃ W7, W7 = wc := ⟨_, rfl⟩
        subst hW7
        obtain ⟨cc, hcc⟩ : ∃ c, (ee && (fa && fb)) = c := ⟨_, rfl⟩
        rw [hcc]
        cases cc
        · clear hcc
          obtain ⟨p0, p1, p2, p3, p4⟩ := five (Hid.out BA6)
          obtain ⟨q0, q1, q2, q3, q4⟩ := five (Hid.out BD6)
          go_upto_region 12 with (go_at_call 4; refine (HU2.out _ (Hid.out BW6)).mono ?_; intro e W8 hup; obtain ⟨hb8, m', is', rfl, hal⟩ := upost_facts hup; obtain ⟨L', hL', hcs'⟩ := u_use hal; clear hup hal)
          obtain ⟨hi, hLL⟩ := u_both HCS.out hcs'
          have hm := HL6.out _ hb8
          have hm' := hL' _ (Below.refl _ _)
          have hbw := below_step (Hid.out BW6) hb8
          rw [hi]
          clear HCS hcs' hL' HL6 hb8 BA6 BD6 BW6 p0 p1 p2 p3 p4 q0 q1 q2 q3 q4
          have hbd := fun (X : World) (h : Below W8.heap.size W8 X) => bindings_any L L' m m' X (hm.later h) (hm'.later h)
          rw [decide_eq_true hLL] at hbd
          have HBD : Hid _ := hbd
          clear hbd hm hm' hLL
          cases is
          all_goals
            go_wp2_with (first
              | (go_at_call 9; refine Calls.mono (HBD.out _ (Below.refl _ _)) ?_; rintro e w9 ⟨rfl, hb9⟩)
              | (go_at_call 10; refine (first_any _).mono ?_; rintro e wz ⟨rfl, hbz⟩))
            go_ret
            exact ⟨ret_b rfl, below_step (below_step hbw hb9) hbz⟩
        · simp only [Bool.and_eq_true] at hcc
          obtain ⟨rfl, rfl, rfl⟩ := hcc
          have hme : At.mk ⟨mk, mn, mz⟩ mm ml = At.mk ⟨dk, dn, dz⟩ dm dl := of_decide_eq_true HEE.out
          have hmm : A.mk' (become s) = D.mk' (become s) := by rw [HM.out, HMD.out, hme]
          have hu : is = true ∧ Uni A D L := by
            rcases HCS.out with ⟨-, -, -, h3⟩ | h
            · exact (h3 _ (fix_become s) hmm (by rw [HA.out]; exact HFA.out) (by rw [HD.out]; exact HFB.out)).elim
            · exact h
          obtain ⟨rfl, hu⟩ := hu
          have HU : Hid (Uni A D L) := hu
          clear HCS
          have hax : ∀ X z, Below W7.heap.size W7 X → Ts X z xl → Calls Try.prog 5 #[v, At.v ⟨⟨xk, xn, xz⟩, xm, xl⟩ z] X fun e w' => ∃ z, e = .returned (At.v ⟨⟨mk, mn, mz⟩, mm, ml⟩ z) ∧ Ts w' z ml ∧ Below X.heap.size X w' := fun X z h hz => by
            have := APX.out X v s L z (HV.out.later (below_step (Hid.out BW6) h)) (by rw [← HA.out, HXA.out]; exact hz)
            rw [← HA.out, mk'_mk' _ _ _ (hu.through (fix_become s) hmm), HXA.out, HM.out] at this
            exact this
          have hsm : ∀ X z z', Ts X z ml → Ts X z' ml → Calls Try.prog 7 #[At.v ⟨⟨mk, mn, mz⟩, mm, ml⟩ z, At.v ⟨⟨mk, mn, mz⟩, mm, ml⟩ z'] X fun e w' => e = .returned (.bool true) ∧ Below X.heap.size X w' := fun X z z' h h' => by
            have := same_any ⟨⟨mk, mn, mz⟩, mm, ml⟩ ⟨⟨mk, mn, mz⟩, mm, ml⟩ z z' X h h'
            rw [decide_eq_true rfl] at this
            exact this
          have HAX : Hid (∀ X z, Below W7.heap.size W7 X → Ts X z xl → Calls Try.prog 5 #[v, At.v ⟨⟨xk, xn, xz⟩, xm, xl⟩ z] X fun e w' => ∃ z, e = .returned (At.v ⟨⟨mk, mn, mz⟩, mm, ml⟩ z) ∧ Ts w' z ml ∧ Below X.heap.size X w') := hax
          have HSN : Hid (∀ X z z', Ts X z ml → Ts X z' ml → Calls Try.prog 7 #[At.v ⟨⟨mk, mn, mz⟩, mm, ml⟩ z, At.v ⟨⟨mk, mn, mz⟩, mm, ml⟩ z'] X fun e w' => e = .returned (.bool true) ∧ Below X.heap.size X w') := hsm
          clear hme hmm hu hax hsm
          go_upto_region 9 with fail
          go_cut [94] from 85 to 94 (fun s94 wx => s94 = .bool false ∧ Below W7.heap.size W7 wx)
          case first =>
            clear HU
            refine wp_region_held_drew (S := fun w' => Below W7.heap.size W7 w') (by kernel_rfl) (Below.refl _ _).drew (fun hH => ?_)
            revert hH
            generalize W7.drew = V
            intro hH
            refine wpAnyH_take (i := 0) (oi := ⟨_, _, _, _, _, _⟩) (v := .bool true) rfl (by kernel_rfl) (by kernel_rfl) (by kernel_rfl) (fun _ _ _ h => h) (Or.inl ⟨by rfl, fun w' _ => by go_simp⟩) hH ?_
            simp only [Act.put, List.setIfInBounds_toArray, List.set_cons_zero, List.set_cons_succ]
            refine wpAnyH_take (i := 1) (oi := ⟨_, _, _, _, _, _⟩) (v := .bool false) rfl (by kernel_rfl) (by kernel_rfl) (by kernel_rfl) (fun _ _ _ h => h) (Or.inl ⟨by rfl, fun w' _ => by go_simp⟩) hH ?_
            simp only [Act.put, List.setIfInBounds_toArray, List.set_cons_zero, List.set_cons_succ]
            refine wpAnyH_take (i := 2) (oi := ⟨_, _, _, _, _, _⟩) (v := .bool false) rfl (by kernel_rfl) (by kernel_rfl) (by kernel_rfl) (fun _ _ _ h => h) (Or.inl ⟨by rfl, fun w' _ => by go_simp⟩) hH ?_
            simp only [Act.put, List.setIfInBounds_toArray, List.set_cons_zero, List.set_cons_succ]
            refine wpAnyH_take (i := 3) (oi := ⟨_, _, _, _, _, _⟩) (v := v) rfl (by kernel_rfl) (by kernel_rfl) (by kernel_rfl) (fun _ _ _ h => h) (Or.inl ⟨by rfl, fun w' _ => by go_simp⟩) hH ?_
            simp only [Act.put, List.setIfInBounds_toArray, List.set_cons_zero, List.set_cons_succ]
            refine wpAnyH_take (i := 4) (oi := ⟨_, _, _, _, _, _⟩) (v := .agg #[.int .i64 xk, .int .i64 xn, .string xz, .string xm, .slice za xl.length zc]) rfl (by kernel_rfl) (by kernel_rfl) (by kernel_rfl) (fun _ _ _ h => h) (Or.inl ⟨by rfl, fun w' h => by obtain ⟨p0, p1, p2, p3, p4⟩ := five (Hid.out BX6); have z := Blk.lt (Hid.out BX6); have a0 := cell_step h z p0; have a1 := cell_step h z p1; have a2 := cell_step h z p2; have a3 := cell_step h z p3; have a4 := cell_step h z p4; clear p0 p1 p2 p3 p4; go_simp⟩) hH ?_
            simp only [Act.put, List.setIfInBounds_toArray, List.set_cons_zero, List.set_cons_succ]
            refine wpAnyH_take (i := 6) (oi := ⟨_, _, _, _, _, _⟩) (v := .agg #[.int .i64 mk, .int .i64 mn, .string mz, .string mm, .slice ma ml.length mc]) rfl (by kernel_rfl) (by kernel_rfl) (by kernel_rfl) (fun _ _ _ h => h) (Or.inl ⟨by rfl, fun w' h => by obtain ⟨p0, p1, p2, p3, p4⟩ := five (Hid.out BM6); have z := Blk.lt (Hid.out BM6); have a0 := cell_step h z p0; have a1 := cell_step h z p1; have a2 := cell_step h z p2; have a3 := cell_step h z p3; have a4 := cell_step h z p4; clear p0 p1 p2 p3 p4; go_simp⟩) hH ?_
            simp only [Act.put, List.setIfInBounds_toArray, List.set_cons_zero, List.set_cons_succ]
            refine wpAnyH_ready (rs := [5]) (by kernel_rfl) (by simp) ?_
            refine (AllReadyH.cons (o := ⟨_, _, _, _, _, _⟩) rfl (fun K hK => ?_) AllReadyH.nil)
            go_simp
            refine (HAX.out _ (.slice za xl.length zc) hH (TX6.out.later hH)).mono ?_
            rintro e V1 ⟨z, rfl, tz, hb1⟩
            refine hK.out _ _ (below_step hH hb1) (fun hH => ?_)
            clear hK K
            refine wpAnyH_ready (rs := [7]) (by kernel_rfl) (by simp) ?_
            refine (AllReadyH.cons (o := ⟨_, _, _, _, _, _⟩) rfl (fun K hK => ?_) AllReadyH.nil)
            go_simp
            refine (HSN.out _ z (.slice ma ml.length mc) tz (TM6.out.later hH)).mono ?_
            rintro e V2 ⟨rfl, hb2⟩
            refine hK.out _ _ (below_step hH hb2) (fun hH => ?_)
            clear hK K
            refine wpAnyH_take (i := 8) (oi := ⟨_, _, _, _, _, _⟩) (v := .bool false) rfl (by kernel_rfl) (by kernel_rfl) (by kernel_rfl) (fun _ _ _ h => h) (Or.inl ⟨by rfl, fun w' _ => by go_simp⟩) hH ?_
            simp only [Act.put, List.setIfInBounds_toArray, List.set_cons_zero, List.set_cons_succ]
            refine wpAnyH_take (i := 9) (oi := ⟨_, _, _, _, _, _⟩) (v := .bool false) rfl (by kernel_rfl) (by kernel_rfl) (by kernel_rfl) (fun _ _ _ h => h) (Or.inl ⟨by rfl, fun w' _ => by go_simp⟩) hH ?_
            simp only [Act.put, List.setIfInBounds_toArray, List.set_cons_zero, List.set_cons_succ]
            refine wpAnyH_done (by kernel_rfl) ?_ _
            go_wp2_with fail
            go_meet
            case rel => exact ⟨rfl, hH⟩
          case rest =>
            obtain ⟨rfl, hbc⟩ := hcut
            have BA6 : Hid (Blk wc w.heap.size #[.int .i64 k, .int .i64 n, .string ss, .string nm, x] 26) := Blk.later (Hid.out BA6) hbc
            have BD6 : Hid (Blk wc (w.heap.size + 1) #[.int .i64 k', .int .i64 n', .string ss', .string nm', y] 26) := Blk.later (Hid.out BD6) hbc
            have BW6 : Hid (Below w.heap.size w wc) := below_step (Hid.out BW6) hbc
            have HL6 : Hid (∀ X, Below wc.heap.size wc X → Bs X m L) := fun X h => HL6.out X (below_step hbc h)
            clear hbc BM6 BX6 TX6 TM6
            obtain ⟨p0, p1, p2, p3, p4⟩ := five (Hid.out BA6)
            obtain ⟨q0, q1, q2, q3, q4⟩ := five (Hid.out BD6)
            go_upto_region 12 with (go_at_call 4; refine (HU2.out _ (Hid.out BW6)).mono ?_; intro e W8 hup; obtain ⟨hb8, m', is', rfl, hal⟩ := upost_facts hup; obtain ⟨L', hL', hcs'⟩ := u_use hal; clear hup hal)
            obtain ⟨hi, hLL⟩ := u_both (m := m) (is := true) (Or.inr ⟨rfl, HU.out⟩) hcs'
            have hm := HL6.out _ hb8
            have hm' := hL' _ (Below.refl _ _)
            have hbw := below_step (Hid.out BW6) hb8
            rw [hi]
            clear HU hcs' hL' HL6 hb8 BA6 BD6 BW6 p0 p1 p2 p3 p4 q0 q1 q2 q3 q4
            have hbd := fun (X : World) (h : Below W8.heap.size W8 X) => bindings_any L L' m m' X (hm.later h) (hm'.later h)
            rw [decide_eq_true hLL] at hbd
            have HBD : Hid _ := hbd
            clear hbd hm hm' hLL
            go_wp2_with (first
              | (go_at_call 9; refine Calls.mono (HBD.out _ (Below.refl _ _)) ?_; rintro e w9 ⟨rfl, hb9⟩)
              | (go_at_call 10; refine (first_any _).mono ?_; rintro e wz ⟨rfl, hbz⟩))
            go_ret
            exact ⟨ret_b rfl, below_step (below_step hbw hb9) hbz⟩
end Go.Proofs.Ytlojgaigbdnjjab
