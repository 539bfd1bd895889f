/-
  putAtom. (Written by MD9.py.)
-/
import Derived.Test.YtllgffmhbddigaaGreatMD8
import Derived.Deep.RegionHeld3
namespace Go.Proofs.YtllgffmhbddigaaGreat
open Go.RowKit
attribute [local go_sem ↓] Go.wp_at_zero Go.wp_at_succ

/-- An atom's box and the answer's. -/
structure PP (w X : World) (x : At) (v : Value) : Prop where
  bc : CBlk X w.heap.size (At.cs x v) 26
  br : CBlk X (w.heap.size + 1) #[.int .i64 0, .int .i64 0, .string ⟨#[]⟩, .string ⟨#[]⟩, .slice none 0 0] 26
  bw : Below w.heap.size w X
  sz : w.heap.size + 1 + 1 ≤ X.heap.size
theorem PP.later {w X X' : World} {x : At} {v : Value} (h : PP w X x v) (hb : Below X.heap.size X X') : PP w X' x v := ⟨h.bc.later hb, h.br.later hb, below_step h.bw hb, Nat.le_trans h.sz hb.size⟩
theorem PP.laterB {w X X' : World} {x : At} {v : Value} {B : Nat} (h : PP w X x v) (hb : Below B X X') (hB : w.heap.size + 1 + 1 ≤ B) : PP w X' x v :=
  ⟨(hb.block _ (by omega)).trans h.bc, (hb.block _ (by omega)).trans h.br, h.bw.trans (hb.mono (by omega)), Nat.le_trans h.sz hb.size⟩
theorem PP.start (w : World) (x : At) (v : Value) : PP w ((w.alloc (.cells (At.cs x v) 26)).alloc (.cells #[.int .i64 0, .int .i64 0, .string ⟨#[]⟩, .string ⟨#[]⟩, .slice none 0 0] 26)) x v := by
  have x2 := CBlk.new (w.alloc (.cells (At.cs x v) 26)) #[.int .i64 0, .int .i64 0, .string ⟨#[]⟩, .string ⟨#[]⟩, .slice none 0 0] 26
  rw [show (w.alloc (.cells (At.cs x v) 26)).heap.size = w.heap.size + 1 by simp] at x2
  exact ⟨(CBlk.new w (At.cs x v) 26).later (below1 _ _), x2, below2 _ _ _, by simp⟩
theorem MS.pp {w X : World} {x : At} {v : Value} {b' : Tm} {nm' : ByteArray} {u : Value} {L : List Tm} (h : MS w X x v b' nm' u L) : PP w X x v := ⟨h.bc, h.br, h.bw, by have := h.sz; omega⟩
theorem PP.fill {w Y : World} {x : At} {v : Value} (h : PP w Y x v) (hg : CBlk Y (w.heap.size + 1 + 1) #[.int .i64 0, .int .i64 0, .string ⟨#[]⟩, .string ⟨#[]⟩, .slice none 0 0] 26) {b' : Tm} {nm' : ByteArray} :
    MS w (((((Y.setCell ⟨w.heap.size + 1 + 1, 0, none⟩ (.int .i64 b'.k)).setCell ⟨w.heap.size + 1 + 1, 1, none⟩ (.int .i64 b'.n)).setCell ⟨w.heap.size + 1 + 1, 2, none⟩ (.string b'.s)).setCell ⟨w.heap.size + 1 + 1, 3, none⟩ (.string nm')).setCell ⟨w.heap.size + 1 + 1, 4, none⟩ (.slice none 0 0)) x v b' nm' (.slice none 0 0) [] := by
  have n1 : w.heap.size ≠ w.heap.size + 1 + 1 := by omega
  have n2 : w.heap.size + 1 ≠ w.heap.size + 1 + 1 := by omega
  have n4 : w.heap.size ≤ w.heap.size + 1 + 1 := by omega
  exact ⟨((((h.bc.off n1).off n1).off n1).off n1).off n1, ((((h.br.off n2).off n2).off n2).off n2).off n2, hg.put5, ownT_nil _ _, ((((h.bw.setCell n4 _).setCell n4 _).setCell n4 _).setCell n4 _).setCell n4 _, by have := hg.lt; simp [World.setCell]; omega⟩
set_option maxRecDepth 20000 in
set_option maxHeartbeats 2000000 in
theorem putAtom_any (f : Tm → Tm) (x : At) (v : Value) (pre post : List Tm) (vl : Value) (w : World) (hv : ∃ a cap, v = .slice a x.args.length cap) (hlen : x.args.length ≤ 3900000000000) (hl : Ts w vl (pre ++ (x.pl.map f ++ post))) :
    Calls Tryz.prog 121 #[x.v v, vl, .int .i64 (pre.length : Nat)] w fun e w' => ∃ v', e = .returned (.tuple #[(mapA f x).v v', .int .i64 ((pre.length + x.pl.length : Nat) : Int)]) ∧ OwnT w' w.heap.size v' (mapA f x).args ∧ Below w.heap.size w w' := by
  obtain ⟨⟨k, n, ss⟩, nm, la⟩ := x
  simp only at hv hlen
  obtain ⟨a, cap, rfl⟩ := hv
  obtain ⟨al, capl, rfl, hLl, hm⟩ := hl
  have hpl : (At.pl ⟨⟨k, n, ss⟩, nm, la⟩).map f = f ⟨k, n, ss⟩ :: la.map f := rfl
  rw [hpl] at hm hLl ⊢
  have HEQ : Hid (mapA f ⟨⟨k, n, ss⟩, nm, la⟩ = ⟨f ⟨k, n, ss⟩, nm, la.map f⟩) := rfl
  have hpn : (At.pl ⟨⟨k, n, ss⟩, nm, la⟩).length = la.length + 1 := by simp [At.pl]
  rw [hpn]
  have hget0 : (pre ++ (f ⟨k, n, ss⟩ :: la.map f ++ post))[pre.length]? = some (f ⟨k, n, ss⟩) := by simp
  have hget : ∀ j t, (la.map f)[j]? = some t → (pre ++ (f ⟨k, n, ss⟩ :: la.map f ++ post))[pre.length + 1 + j]? = some t := fun j t h => by
    rw [List.getElem?_append_right (by omega), show pre.length + 1 + j - pre.length = j + 1 by omega, List.cons_append, List.getElem?_cons_succ, List.getElem?_append_left (List.getElem?_eq_some_iff.1 h).1, h]
  have hlm : (la.map f).length = la.length := by simp
  have hLn : pre.length + 1 + la.length ≤ (pre ++ (f ⟨k, n, ss⟩ :: la.map f ++ post)).length := by simp; omega
  obtain ⟨⟨bk, bn, bz⟩, hB⟩ : ∃ b, f ⟨k, n, ss⟩ = b := ⟨_, rfl⟩
  rw [hB] at hget0 hget HEQ hm hLl hLn ⊢
  generalize la.map f = LM at hget0 hget HEQ hm hLl hLn hlm ⊢
  generalize pre ++ (⟨bk, bn, bz⟩ :: LM ++ post) = LL at hget0 hget hm hLl hLn ⊢
  generalize pre.length = KK at hget0 hget hLn ⊢
  rcases hm with hm | ⟨b1, o1, rfl, hb1, hm⟩
  · subst hm; simp at hget0
  have HGET : Hid (∀ j t, LM[j]? = some t → LL[KK + 1 + j]? = some t) := hget
  obtain ⟨p0, p1, p2⟩ := hm KK _ hget0
  simp only at p0 p1 p2
  have HM : Hid (∀ i t, LL[i]? = some t → _) := hm
  have HLM : Hid (LM.length = la.length) := hlm
  have i1 : (0 : Int) ≤ (KK : Int) := by omega
  have i2 : (KK : Int) < (LL.length : Int) := by omega
  clear hB hget hget0 hpl hpn hm hlm
  go_enter Tryz.func121, Tryz.ntmps121
  go_wp2_with fail
  have hV0 : PP w (((w.alloc (.cells (At.cs ⟨⟨k, n, ss⟩, nm, la⟩ (.slice a la.length cap)) 26)).alloc (.cells #[.int .i64 0, .int .i64 0, .string ⟨#[]⟩, .string ⟨#[]⟩, .slice none 0 0] 26))).drew ⟨⟨k, n, ss⟩, nm, la⟩ (.slice a la.length cap) ∧ (((w.alloc (.cells (At.cs ⟨⟨k, n, ss⟩, nm, la⟩ (.slice a la.length cap)) 26)).alloc (.cells #[.int .i64 0, .int .i64 0, .string ⟨#[]⟩, .string ⟨#[]⟩, .slice none 0 0] 26))).drew.heap.size = w.heap.size + 1 + 1 := ⟨(PP.start w ⟨⟨k, n, ss⟩, nm, la⟩ (.slice a la.length cap)).later (Below.refl _ _).drew, by simp [World.drew]⟩
  refine wp_region_held_drew (S := fun w' => PP w w' ⟨⟨k, n, ss⟩, nm, la⟩ (.slice a la.length cap)) (by kernel_rfl) hV0.1 (fun hH => ?_)
  revert hH hV0
  generalize ((w.alloc (.cells (At.cs ⟨⟨k, n, ss⟩, nm, la⟩ (.slice a la.length cap)) 26)).alloc (.cells #[.int .i64 0, .int .i64 0, .string ⟨#[]⟩, .string ⟨#[]⟩, .slice none 0 0] 26)).drew = V0
  intro hV0 hH
  obtain ⟨hV0, hVs⟩ := hV0
  have HV0 : Hid (PP w V0 ⟨⟨k, n, ss⟩, nm, la⟩ (.slice a la.length cap)) := hV0
  clear hV0
  refine wpAnyH_take (i := 0) (oi := ⟨_, _, _, _, _, _⟩) (v := .slice (some ⟨b1, o1, none⟩) LL.length capl) rfl (by kernel_rfl) (by kernel_rfl) (by kernel_rfl) (fun _ _ _ h => h) (Or.inl ⟨by rfl, fun w' h => by clear h; go_simp⟩) hH ?_
  simp only [Act.put, List.setIfInBounds_toArray, List.set_cons_zero, List.set_cons_succ]
  refine wpAnyH_take (i := 1) (oi := ⟨_, _, _, _, _, _⟩) (v := .int .i64 (KK : Int)) rfl (by kernel_rfl) (by kernel_rfl) (by kernel_rfl) (fun _ _ _ h => h) (Or.inl ⟨by rfl, fun w' h => by clear h; go_simp⟩) hH ?_
  simp only [Act.put, List.setIfInBounds_toArray, List.set_cons_zero, List.set_cons_succ]
  refine wpAnyH_take (i := 2) (oi := ⟨_, _, _, _, _, _⟩) (v := .pointer (some ⟨b1, o1 + KK * 3, none⟩)) rfl (by kernel_rfl) (by kernel_rfl) (by kernel_rfl) (fun _ _ _ h => h) (Or.inl ⟨by rfl, fun w' h => by clear h; go_simp⟩) hH ?_
  simp only [Act.put, List.setIfInBounds_toArray, List.set_cons_zero, List.set_cons_succ]
  refine wpAnyH_take (i := 3) (oi := ⟨_, _, _, _, _, _⟩) (v := Tm.v ⟨bk, bn, bz⟩) rfl (by kernel_rfl) (by kernel_rfl) (by kernel_rfl) (fun _ _ _ h => h) (Or.inl ⟨by rfl, fun w' h => by have z1 := cell_step h.bw hb1 p0; have z2 := cell_step h.bw hb1 p1; have z3 := cell_step h.bw hb1 p2; clear h; go_simp⟩) hH ?_
  simp only [Act.put, List.setIfInBounds_toArray, List.set_cons_zero, List.set_cons_succ]
  refine wpAnyH_take (i := 4) (oi := ⟨_, _, _, _, _, _⟩) (v := .pointer (some ⟨w.heap.size, 3, none⟩)) rfl (by kernel_rfl) (by kernel_rfl) (by kernel_rfl) (fun _ _ _ h => h) (Or.inl ⟨by rfl, fun w' h => by clear h; go_simp⟩) hH ?_
  simp only [Act.put, List.setIfInBounds_toArray, List.set_cons_zero, List.set_cons_succ]
  refine wpAnyH_take (i := 5) (oi := ⟨_, _, _, _, _, _⟩) (v := .string nm) rfl (by kernel_rfl) (by kernel_rfl) (by kernel_rfl) (fun _ _ _ h => h) (Or.inl ⟨by rfl, fun w' h => by obtain ⟨c0, c1, c2, c3, c4⟩ := cfive h.bc; clear h; go_simp⟩) hH ?_
  simp only [Act.put, List.setIfInBounds_toArray, List.set_cons_zero, List.set_cons_succ]
  refine wpAnyH_take (i := 6) (oi := ⟨_, _, _, _, _, _⟩) (v := .agg #[.int .i64 bk, .int .i64 bn, .string bz, .string nm, .slice none 0 0]) rfl (by kernel_rfl) (by kernel_rfl) (by kernel_rfl) (fun _ _ _ h => h) (Or.inl ⟨by rfl, fun w' h => by clear h; go_simp⟩) hH ?_
  simp only [Act.put, List.setIfInBounds_toArray, List.set_cons_zero, List.set_cons_succ]
  refine wpAnyH_ready (rs := [7]) (by kernel_rfl) (by simp) ?_
  refine (AllReadyH.cons (o := ⟨_, _, _, _, _, _⟩) rfl (fun K hK => ?_) AllReadyH.nil)
  go_simp
  have HV1 : Hid (PP w (V0.alloc (.cells #[.int .i64 0, .int .i64 0, .string ⟨#[]⟩, .string ⟨#[]⟩, .slice none 0 0] 26)) ⟨⟨k, n, ss⟩, nm, la⟩ (.slice a la.length cap)) := HV0.out.later (below1 _ _)
  have HG1 : Hid (CBlk (V0.alloc (.cells #[.int .i64 0, .int .i64 0, .string ⟨#[]⟩, .string ⟨#[]⟩, .slice none 0 0] 26)) (w.heap.size + 1 + 1) #[.int .i64 0, .int .i64 0, .string ⟨#[]⟩, .string ⟨#[]⟩, .slice none 0 0] 26) := by have := CBlk.new V0 #[.int .i64 0, .int .i64 0, .string ⟨#[]⟩, .string ⟨#[]⟩, .slice none 0 0] 26; rw [hVs] at this; exact this
  clear hH HV0 hVs
  refine hK.out _ _ HV1.out (fun hH => ?_)
  clear hK K
  revert hH HV1 HG1
  generalize V0.alloc (.cells #[.int .i64 0, .int .i64 0, .string ⟨#[]⟩, .string ⟨#[]⟩, .slice none 0 0] 26) = V1
  intro HV1 HG1 hH
  refine wpAnyH_ready (rs := [8]) (by kernel_rfl) (by simp) ?_
  refine (AllReadyH.cons (o := ⟨_, _, _, _, _, _⟩) rfl (fun K hK => ?_) AllReadyH.nil)
  obtain ⟨c0, c1, c2, c3, c4⟩ := cfive HG1.out
  have f0 : V1.frozen? ⟨w.heap.size + 1 + 1, 0, none⟩ = false := HG1.out.froz
  have f1 : V1.frozen? ⟨w.heap.size + 1 + 1, 1, none⟩ = false := HG1.out.froz
  have f2 : V1.frozen? ⟨w.heap.size + 1 + 1, 2, none⟩ = false := HG1.out.froz
  have f3 : V1.frozen? ⟨w.heap.size + 1 + 1, 3, none⟩ = false := HG1.out.froz
  have f4 : V1.frozen? ⟨w.heap.size + 1 + 1, 4, none⟩ = false := HG1.out.froz
  go_simp
  clear c0 c1 c2 c3 c4 f0 f1 f2 f3 f4 hH
  have HM1 : Hid (MS w (((((V1.setCell ⟨w.heap.size + 1 + 1, 0, none⟩ (.int .i64 bk)).setCell ⟨w.heap.size + 1 + 1, 1, none⟩ (.int .i64 bn)).setCell ⟨w.heap.size + 1 + 1, 2, none⟩ (.string bz)).setCell ⟨w.heap.size + 1 + 1, 3, none⟩ (.string nm)).setCell ⟨w.heap.size + 1 + 1, 4, none⟩ (.slice none 0 0)) ⟨⟨k, n, ss⟩, nm, la⟩ (.slice a la.length cap) ⟨bk, bn, bz⟩ nm (.slice none 0 0) []) := HV1.out.fill (b' := ⟨bk, bn, bz⟩) (nm' := nm) HG1.out
  refine hK.out _ _ HM1.out.pp (fun hH => ?_)
  clear hK K hH
  refine wpAnyH_done (by kernel_rfl) ?_ _
  clear HV1 HG1
  go_wp2_with fail
  clear p0 p1 p2
  go_loopg [2, 9] la.length (fun g a2 i wr => ∃ (j : Nat) (u : Value), j + g = la.length ∧ a2 = .int .i64 ((KK + 1 + j : Nat) : Int) ∧ i = .int .i64 j ∧ MS w wr ⟨⟨k, n, ss⟩, nm, la⟩ (.slice a la.length cap) ⟨bk, bn, bz⟩ nm u (LM.take j))
  case atStart => exact ⟨0, _, by omega, by go_num, rfl, HM1.out⟩
  case round =>
    obtain ⟨j, u, hj, hQ, rfl, hms⟩ := hrel
    have HMS : Hid (MS w wr ⟨⟨k, n, ss⟩, nm, la⟩ (.slice a la.length cap) ⟨bk, bn, bz⟩ nm u (LM.take j)) := hms
    clear hms HM1
    obtain ⟨c0, c1, c2, c3, c4⟩ := cfive HMS.out.bc
    simp only at c0 c1 c2 c3 c4
    obtain ⟨QQ, hQQ⟩ : ∃ Q, KK + 1 + j = Q := ⟨_, rfl⟩
    rw [hQQ] at hQ
    subst hQ
    have hQ2 : Hid (QQ = KK + 1 + j) := hQQ.symm
    cases gk with
    | succ g =>
      have hlt : (j : Int) < (la.length : Int) := by omega
      have j0 : (0 : Int) ≤ (QQ : Int) := by omega
      have j1 : (QQ : Int) < (LL.length : Int) := by omega
      obtain ⟨t, ht⟩ : ∃ t, LM[j]? = some t := ⟨_, List.getElem?_eq_getElem (by have := HLM.out; omega)⟩
      obtain ⟨p0, p1, p2⟩ := HM.out QQ t (by rw [← hQQ]; exact HGET.out j t ht)
      have HTJ : Hid (LM.take j ++ [t] = LM.take (j + 1)) := by show _ = _; rw [List.take_add_one, ht]; rfl
      have HLJ : Hid ((LM.take j).length ≤ 3900000000000) := by show _ ≤ _; rw [List.length_take]; omega
      clear hQQ ht
      obtain ⟨tk, tn, ts⟩ := t
      simp only at p0 p1 p2
      generalize LM.take j = LJ at HMS HTJ HLJ
      go_wp2_with fail
      clear c0 c1 c2 c3 c4
      have hV0 : MS w wr.drew ⟨⟨k, n, ss⟩, nm, la⟩ (.slice a la.length cap) ⟨bk, bn, bz⟩ nm u LJ := HMS.out.later (Below.refl _ _).drew
      refine wp_region_held_drew (S := fun w' => PP w w' ⟨⟨k, n, ss⟩, nm, la⟩ (.slice a la.length cap)) (by kernel_rfl) hV0.pp (fun hH => ?_)
      revert hH hV0
      generalize wr.drew = V0
      intro hV0 hH
      have HV0 : Hid (MS w V0 ⟨⟨k, n, ss⟩, nm, la⟩ (.slice a la.length cap) ⟨bk, bn, bz⟩ nm u LJ) := hV0
      clear hV0 HMS
      refine wpAnyH_take (i := 0) (oi := ⟨_, _, _, _, _, _⟩) (v := .pointer (some ⟨w.heap.size + 1 + 1, 4, none⟩)) rfl (by kernel_rfl) (by kernel_rfl) (by kernel_rfl) (fun _ _ _ h => h) (Or.inl ⟨by rfl, fun w' h => by clear h; go_simp⟩) hH ?_
      simp only [Act.put, List.setIfInBounds_toArray, List.set_cons_zero, List.set_cons_succ]
      refine wpAnyH_take (i := 2) (oi := ⟨_, _, _, _, _, _⟩) (v := .slice (some ⟨b1, o1, none⟩) LL.length capl) rfl (by kernel_rfl) (by kernel_rfl) (by kernel_rfl) (fun _ _ _ h => h) (Or.inl ⟨by rfl, fun w' h => by clear h; go_simp⟩) hH ?_
      simp only [Act.put, List.setIfInBounds_toArray, List.set_cons_zero, List.set_cons_succ]
      refine wpAnyH_take (i := 3) (oi := ⟨_, _, _, _, _, _⟩) (v := .int .i64 (QQ : Int)) rfl (by kernel_rfl) (by kernel_rfl) (by kernel_rfl) (fun _ _ _ h => h) (Or.inl ⟨by rfl, fun w' h => by clear h; go_simp⟩) hH ?_
      simp only [Act.put, List.setIfInBounds_toArray, List.set_cons_zero, List.set_cons_succ]
      refine wpAnyH_take (i := 4) (oi := ⟨_, _, _, _, _, _⟩) (v := .pointer (some ⟨b1, o1 + QQ * 3, none⟩)) rfl (by kernel_rfl) (by kernel_rfl) (by kernel_rfl) (fun _ _ _ h => h) (Or.inl ⟨by rfl, fun w' h => by clear h; go_simp⟩) hH ?_
      simp only [Act.put, List.setIfInBounds_toArray, List.set_cons_zero, List.set_cons_succ]
      refine wpAnyH_take (i := 5) (oi := ⟨_, _, _, _, _, _⟩) (v := Tm.v ⟨tk, tn, ts⟩) rfl (by kernel_rfl) (by kernel_rfl) (by kernel_rfl) (fun _ _ _ h => h) (Or.inl ⟨by rfl, fun w' h => by have z1 := cell_step h.bw hb1 p0; have z2 := cell_step h.bw hb1 p1; have z3 := cell_step h.bw hb1 p2; clear h; go_simp⟩) hH ?_
      simp only [Act.put, List.setIfInBounds_toArray, List.set_cons_zero, List.set_cons_succ]
      refine wpAnyH_ready (rs := [1, 6]) (by kernel_rfl) (by simp) ?_
      refine (AllReadyH.cons (o := ⟨_, _, _, _, _, _⟩) rfl (fun K hK => ?_) (AllReadyH.cons (o := ⟨_, _, _, _, _, _⟩) rfl (fun K hK => ?_) AllReadyH.nil))
      · have c4 := (cfive HV0.out.bo).2.2.2.2
        go_simp
        clear c4
        refine hK.out _ _ hH (fun hH => ?_)
        clear hK K
        refine wpAnyH_ready (rs := [6]) (by kernel_rfl) (by simp) ?_
        refine (AllReadyH.cons (o := ⟨_, _, _, _, _, _⟩) rfl (fun K hK => ?_) AllReadyH.nil)
        go_simp
        have HV1 : Hid (MS w (V0.alloc (.cells #[.int .i64 tk, .int .i64 tn, .string ts] 23)) ⟨⟨k, n, ss⟩, nm, la⟩ (.slice a la.length cap) ⟨bk, bn, bz⟩ nm u LJ) := HV0.out.later (below1 _ _)
        have HG : Hid (CBlk (V0.alloc (.cells #[.int .i64 tk, .int .i64 tn, .string ts] 23)) V0.heap.size #[.int .i64 tk, .int .i64 tn, .string ts] 23) := CBlk.new _ _ _
        clear hH HV0
        refine hK.out _ _ HV1.out.pp (fun hH => ?_)
        clear hK K
        revert hH HV1 HG
        generalize V0.alloc (.cells #[.int .i64 tk, .int .i64 tn, .string ts] 23) = V1
        generalize V0.heap.size = GG
        intro HV1 HG hH
        refine wpAnyH_ready (rs := [7]) (by kernel_rfl) (by simp) ?_
        refine (AllReadyH.cons (o := ⟨_, _, _, _, _, _⟩) rfl (fun K hK => ?_) AllReadyH.nil)
        refine step_terms rfl _ _ rfl (w.heap.size + 3) u LJ (by rfl) HV1.out.ow GG [⟨tk, tn, ts⟩] (by simp) (by rfl) (row_one HG.out) (by have := HLJ.out; simp only [List.length_cons, List.length_nil]; omega) HV1.out.sz ?_
        intro v' w3 hown hb3 hg3
        obtain ⟨va, vn, vc, rfl⟩ := ownT_form4 hown
        have HW3 : Hid (MS w (w3.setCell ⟨w.heap.size + 1 + 1, 4, none⟩ (.slice va vn vc)) ⟨⟨k, n, ss⟩, nm, la⟩ (.slice a la.length cap) ⟨bk, bn, bz⟩ nm (.slice va vn vc) (LJ ++ [⟨tk, tn, ts⟩])) := HV1.out.args hown hb3
        have HP3 : Hid (PP w w3 ⟨⟨k, n, ss⟩, nm, la⟩ (.slice a la.length cap)) := (HV1.out.pp.laterB hb3 (by omega))
        have hD : CBlk w3 (w.heap.size + 1 + 1) _ 26 := (hb3.block _ (by omega)).trans HV1.out.bo
        obtain ⟨d0, d1, d2, d3, d4⟩ := cfive hD
        have f4 : w3.frozen? ⟨w.heap.size + 1 + 1, 4, none⟩ = false := hD.froz
        clear hD hown hb3 hg3 HV1 HG hH
        refine hK.out _ _ HP3.out (fun hH => ?_)
        clear hK K
        simp only [Act.put, List.setIfInBounds_toArray, List.set_cons_zero, List.set_cons_succ]
        refine wpAnyH_take (i := 8) (oi := ⟨_, _, _, _, _, _⟩) (v := .pointer (some ⟨w.heap.size + 1 + 1, 4, none⟩)) rfl (by kernel_rfl) (by kernel_rfl) (by kernel_rfl) (fun _ _ _ h => h) (Or.inl ⟨by rfl, fun w' h => by clear h; go_simp⟩) hH ?_
        simp only [Act.put, List.setIfInBounds_toArray, List.set_cons_zero, List.set_cons_succ]
        refine wpAnyH_ready (rs := [9]) (by kernel_rfl) (by simp) ?_
        refine (AllReadyH.cons (o := ⟨_, _, _, _, _, _⟩) rfl (fun K hK => ?_) AllReadyH.nil)
        go_simp
        clear d0 d1 d2 d3 d4 f4
        refine hK.out _ _ HW3.out.pp (fun hH => ?_)
        clear hK K hH HP3
        refine wpAnyH_done (by kernel_rfl) ?_ _
        go_wp2_with fail
        go_roundg g
        case measure => omega
        case rel => exact ⟨j + 1, _, by omega, by rw [hQ2.out]; go_num, by go_num, by rw [← HTJ.out]; exact HW3.out⟩
      · go_simp
        have HV1 : Hid (MS w (V0.alloc (.cells #[.int .i64 tk, .int .i64 tn, .string ts] 23)) ⟨⟨k, n, ss⟩, nm, la⟩ (.slice a la.length cap) ⟨bk, bn, bz⟩ nm u LJ) := HV0.out.later (below1 _ _)
        have HG : Hid (CBlk (V0.alloc (.cells #[.int .i64 tk, .int .i64 tn, .string ts] 23)) V0.heap.size #[.int .i64 tk, .int .i64 tn, .string ts] 23) := CBlk.new _ _ _
        clear hH HV0
        refine hK.out _ _ HV1.out.pp (fun hH => ?_)
        clear hK K
        revert hH HV1 HG
        generalize V0.alloc (.cells #[.int .i64 tk, .int .i64 tn, .string ts] 23) = V1
        generalize V0.heap.size = GG
        intro HV1 HG hH
        refine wpAnyH_ready (rs := [1]) (by kernel_rfl) (by simp) ?_
        refine (AllReadyH.cons (o := ⟨_, _, _, _, _, _⟩) rfl (fun K hK => ?_) AllReadyH.nil)
        have c4 := (cfive HV1.out.bo).2.2.2.2
        go_simp
        clear c4
        refine hK.out _ _ hH (fun hH => ?_)
        clear hK K
        refine wpAnyH_ready (rs := [7]) (by kernel_rfl) (by simp) ?_
        refine (AllReadyH.cons (o := ⟨_, _, _, _, _, _⟩) rfl (fun K hK => ?_) AllReadyH.nil)
        refine step_terms rfl _ _ rfl (w.heap.size + 3) u LJ (by rfl) HV1.out.ow GG [⟨tk, tn, ts⟩] (by simp) (by rfl) (row_one HG.out) (by have := HLJ.out; simp only [List.length_cons, List.length_nil]; omega) HV1.out.sz ?_
        intro v' w3 hown hb3 hg3
        obtain ⟨va, vn, vc, rfl⟩ := ownT_form4 hown
        have HW3 : Hid (MS w (w3.setCell ⟨w.heap.size + 1 + 1, 4, none⟩ (.slice va vn vc)) ⟨⟨k, n, ss⟩, nm, la⟩ (.slice a la.length cap) ⟨bk, bn, bz⟩ nm (.slice va vn vc) (LJ ++ [⟨tk, tn, ts⟩])) := HV1.out.args hown hb3
        have HP3 : Hid (PP w w3 ⟨⟨k, n, ss⟩, nm, la⟩ (.slice a la.length cap)) := (HV1.out.pp.laterB hb3 (by omega))
        have hD : CBlk w3 (w.heap.size + 1 + 1) _ 26 := (hb3.block _ (by omega)).trans HV1.out.bo
        obtain ⟨d0, d1, d2, d3, d4⟩ := cfive hD
        have f4 : w3.frozen? ⟨w.heap.size + 1 + 1, 4, none⟩ = false := hD.froz
        clear hD hown hb3 hg3 HV1 HG hH
        refine hK.out _ _ HP3.out (fun hH => ?_)
        clear hK K
        simp only [Act.put, List.setIfInBounds_toArray, List.set_cons_zero, List.set_cons_succ]
        refine wpAnyH_take (i := 8) (oi := ⟨_, _, _, _, _, _⟩) (v := .pointer (some ⟨w.heap.size + 1 + 1, 4, none⟩)) rfl (by kernel_rfl) (by kernel_rfl) (by kernel_rfl) (fun _ _ _ h => h) (Or.inl ⟨by rfl, fun w' h => by clear h; go_simp⟩) hH ?_
        simp only [Act.put, List.setIfInBounds_toArray, List.set_cons_zero, List.set_cons_succ]
        refine wpAnyH_ready (rs := [9]) (by kernel_rfl) (by simp) ?_
        refine (AllReadyH.cons (o := ⟨_, _, _, _, _, _⟩) rfl (fun K hK => ?_) AllReadyH.nil)
        go_simp
        clear d0 d1 d2 d3 d4 f4
        refine hK.out _ _ HW3.out.pp (fun hH => ?_)
        clear hK K hH HP3
        refine wpAnyH_done (by kernel_rfl) ?_ _
        go_wp2_with fail
        go_roundg g
        case measure => omega
        case rel => exact ⟨j + 1, _, by omega, by rw [hQ2.out]; go_num, by go_num, by rw [← HTJ.out]; exact HW3.out⟩
    | zero =>
      obtain rfl : j = la.length := by omega
      have hz : ¬ ((la.length : Int) < (la.length : Int)) := by omega
      have ht : LM.take la.length = LM := by rw [← HLM.out, List.take_length]
      rw [ht] at HMS
      obtain ⟨ua, un, uc, rfl⟩ := ownT_form4 HMS.out.ow
      obtain ⟨d0, d1, d2, d3, d4⟩ := cfive HMS.out.bo
      obtain ⟨r0, r1, r2, r3, r4⟩ := cfive HMS.out.br
      have f0 : wr.frozen? ⟨w.heap.size + 1, 0, none⟩ = false := HMS.out.br.froz
      have f1 : wr.frozen? ⟨w.heap.size + 1, 1, none⟩ = false := HMS.out.br.froz
      have f2 : wr.frozen? ⟨w.heap.size + 1, 2, none⟩ = false := HMS.out.br.froz
      have f3 : wr.frozen? ⟨w.heap.size + 1, 3, none⟩ = false := HMS.out.br.froz
      have f4 : wr.frozen? ⟨w.heap.size + 1, 4, none⟩ = false := HMS.out.br.froz
      have n3 : w.heap.size + 1 < w.heap.size + 3 := by omega
      have n4 : w.heap.size ≤ w.heap.size + 1 := by omega
      clear ht hQQ
      go_wp2
      refine bodyPost_ret (v := .tuple #[(At.mk ⟨bk, bn, bz⟩ nm LM).v (.slice ua un uc), .int .i64 (QQ : Int)]) (by simp [results, Tryz.results121, go_sem, r0, r1, r2, r3, r4]) rfl ⟨.slice ua un uc, ?_, ?_, ?_⟩
      · rw [HEQ.out, hQ2.out]; congr 3; simp; omega
      · rw [HEQ.out]
        exact ((((((HMS.out.ow.set n3).set n3).set n3).set n3).set n3).mono (by omega))
      · exact ((((HMS.out.bw.setCell n4 _).setCell n4 _).setCell n4 _).setCell n4 _).setCell n4 _
end Go.Proofs.YtllgffmhbddigaaGreat
